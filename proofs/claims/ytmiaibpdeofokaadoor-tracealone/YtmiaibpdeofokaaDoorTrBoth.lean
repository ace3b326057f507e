/-
  TraceBoth, WALKED.
-/
import Derived.Test.YtmiaibpdeofokaaDoorTrBothPl
import Derived.Test.YtmiaibpdeofokaaDoorTrLaws
import Derived.Deep.RegionHeld3
namespace Go.Proofs.YtmiaibpdeofokaaDoor
set_option linter.unusedVariables false
set_option linter.unusedSimpArgs false
open Go.RowKit Go.Maps
attribute [local go_sem] Oper.semAt_some

/-- Numbers that can be read. -/
structure AtI (w : World) (ao : Option Addr) (l : List Int) : Prop where
  at' : ∀ k (hk : k < l.length), ∃ g, ao = some ⟨g, 0, none⟩ ∧ g < w.heap.size ∧ w.cell? ⟨g, k, none⟩ = some (.int .i64 l[k])
theorem AtI.touch {w w' : World} {ao : Option Addr} {l : List Int} (h : AtI w ao l) (t : Touch w w' []) : AtI w' ao l :=
  ⟨fun k hk => by obtain ⟨g, e, h1, h2⟩ := h.at' k hk; exact ⟨g, e, Nat.lt_of_lt_of_le h1 t.size, (t.cell (p := ⟨g, k, none⟩) h1 (by simp)).trans h2⟩⟩
theorem attempts_at {w : World} {ao : Option Addr} {cap : Nat} {l : List EvD} (hr : EvRow w (.slice ao l.length cap) l) (hl : l.length ≤ 1000) (hwf : ∀ e ∈ l, e.Wf) :
    Calls Tryd.prog 12 #[.slice ao l.length cap] w fun x w' => ∃ ao' cap', x = .returned (.slice ao' (attS l).length cap') ∧ AtI w' ao' (attS l) ∧ Touch w w' [] :=
  (attempts_any hr hl hwf).mono (by rintro x w' ⟨v, rfl, h1, h2⟩; obtain ⟨a, c, rfl, h3⟩ := int_form h1; exact ⟨a, c, rfl, ⟨h3⟩, h2⟩)
/-- Counts as numbers. -/
theorem counts_of {w : World} {ao : Option Addr} {cap : Nat} {l : List EvD} (hr : EvRow w (.slice ao l.length cap) l) (hl : l.length ≤ 1000) (hwf : ∀ e ∈ l, e.Wf) {A C B O R X : Int} (h : cntV l = cntA A C B O R X) :
    Calls Tryd.prog 11 #[.slice ao l.length cap] w fun e w' => e = .returned (.agg (cntA A C B O R X)) ∧ Touch w w' [] := by rw [← h]; exact counts_any hr hl hwf
theorem bool_same (b : Bool) : (b != b) = false := by cases b <;> rfl

set_option maxRecDepth 100000 in
set_option maxHeartbeats 4000000 in
theorem traceboth_cut {w : World} (hw : Wdt w) (hz : Tz w) {ao bo : Option Addr} {na nb ca cb : Nat} {a b : List EvD}
    (fa : ∀ W, Calls Tryd.prog 7 #[.slice ao na ca] W fun e w' => e = .returned (.slice ao a.length ca) ∧ w' = W) (fb : ∀ W, Calls Tryd.prog 7 #[.slice bo nb cb] W fun e w' => e = .returned (.slice bo b.length cb) ∧ w' = W)
    (ra : EvRow w (.slice ao a.length ca) a) (rb : EvRow w (.slice bo b.length cb) b) (la : a.length ≤ 60) (lb : b.length ≤ 60) (wa : ∀ e ∈ a, e.Wf) (wb : ∀ e ∈ b, e.Wf) :
    Calls Tryd.prog 4 #[.slice ao na ca, .slice bo nb cb] w fun e w' => e = .returned (.bool true) ∧ Touch w w' [] := by
  have FA : Hid (∀ W, HidC _ _ _ _ _) := fun W => ⟨fa W⟩
  have FB : Hid (∀ W, HidC _ _ _ _ _) := fun W => ⟨fb W⟩
  have HM : Hid (HidC Tryd.prog 6 #[.slice ao a.length ca, .slice bo b.length cb] w (MrgP w (mergeT a b))) := ⟨tmerge_any ra rb (by omega) (by omega) wa wb⟩
  have HLV : Hid (∀ W, Touch w W [] → HidC Tryd.prog 9 #[] W fun e w' => e = .returned (.bool true) ∧ Touch W w' []) := fun W t => ⟨trlive_any W (hw.touch t (by simp)) (hz.touch t)⟩
  have HRW : Hid (EvRow w (.slice ao a.length ca) a ∧ EvRow w (.slice bo b.length cb) b) := ⟨ra, rb⟩
  have HWF : Hid ((∀ e ∈ a, e.Wf) ∧ ∀ e ∈ b, e.Wf) := ⟨wa, wb⟩
  have HLE : Hid (a.length ≤ 60 ∧ b.length ≤ 60) := ⟨la, lb⟩
  have HBT : Hid ((mergeT a b).1 = 0 → Both a b (mergeT a b).2 (abvS a)) := both_of
  have HNO : Hid ((mergeT a b).1 ≠ 0 → (mergeT a b).2 = []) := fun h => by
    unfold mergeT at *
    split at h
    · split at h
      · rename_i h1 h2; rw [if_pos h1, if_pos h2]
      · exact absurd rfl h
    · rename_i h1; rw [if_neg h1]
  clear fa fb ra rb la lb wa wb hw hz
  obtain ⟨La, hLa⟩ : ∃ x, x = a.length := ⟨_, rfl⟩
  obtain ⟨Lb, hLb⟩ : ∃ x, x = b.length := ⟨_, rfl⟩
  have HLAB : Hid (La = a.length ∧ Lb = b.length) := ⟨hLa, hLb⟩
  rw [← hLa] at FA HM
  rw [← hLb] at FB HM
  clear hLa hLb
  obtain ⟨⟨er, m⟩, hr⟩ : ∃ r, r = mergeT a b := ⟨_, rfl⟩
  rw [← hr] at HM HBT HNO
  have HMR : Hid ((er, m) = mergeT a b) := hr
  clear hr
  simp only at HBT HNO
  go_enter Tryd.func4, Tryd.ntmps4
  go_wp2_with fail
  refine (FA.out _).out.mono ?_
  rintro e wx ⟨rfl, rfl⟩
  go_wp2_with fail
  refine (FB.out _).out.mono ?_
  rintro e wy ⟨rfl, rfl⟩
  clear FA FB
  go_wp2_with fail
  refine HM.out.out.mono ?_
  rintro e w1 ⟨mo, mc, rfl, r1, t1⟩
  have T1 : Hid (Touch _ w1 []) := t1
  have RM : Hid _ := r1
  clear t1 r1 HM
  simp only at RM ⊢
  by_cases he0 : er = 0
  case neg =>
    have hm0 : m = [] := HNO.out he0
    subst hm0
    clear HBT HNO
    go_wp2_with fail
    refine (HLV.out _ T1.out).out.mono ?_
    rintro e w2 ⟨rfl, t2⟩
    have T2 : Hid (Touch _ w2 []) := T1.out.trans t2 (by simp)
    clear t2 T1 HLV RM
    go_wp2
    go_ret
    exact ⟨rfl, T2.out⟩
  case pos =>
    subst he0
    obtain ⟨n, HB⟩ : ∃ n, Hid (Both a b m n) := ⟨_, HBT.out rfl⟩
    clear HBT HNO HMR
    have HWM : Hid (∀ e ∈ m, e.Wf) := HB.out.wf HWF.out.1 HWF.out.2
    have HML : Hid (m.length ≤ 400) := HB.out.hl
    obtain ⟨A1, hA1⟩ : ∃ x : Int, x = (attS a).length := ⟨_, rfl⟩
    obtain ⟨C1, hC1⟩ : ∃ x : Int, x = stN a 3 := ⟨_, rfl⟩
    obtain ⟨B1, hB1⟩ : ∃ x : Int, x = stN a 4 := ⟨_, rfl⟩
    obtain ⟨R1, hR1⟩ : ∃ x : Int, x = kdN 2 a := ⟨_, rfl⟩
    obtain ⟨X1, hX1⟩ : ∃ x : Int, x = kdN 3 a := ⟨_, rfl⟩
    obtain ⟨O1, hO1⟩ : ∃ x : Int, x = A1 - C1 - B1 := ⟨_, rfl⟩
    obtain ⟨A2, hA2⟩ : ∃ x : Int, x = (attS b).length := ⟨_, rfl⟩
    obtain ⟨C2, hC2⟩ : ∃ x : Int, x = stN b 3 := ⟨_, rfl⟩
    obtain ⟨B2, hB2⟩ : ∃ x : Int, x = stN b 4 := ⟨_, rfl⟩
    obtain ⟨R2, hR2⟩ : ∃ x : Int, x = kdN 2 b := ⟨_, rfl⟩
    obtain ⟨X2, hX2⟩ : ∃ x : Int, x = kdN 3 b := ⟨_, rfl⟩
    obtain ⟨O2, hO2⟩ : ∃ x : Int, x = A2 - C2 - B2 := ⟨_, rfl⟩
    have HV1 : Hid (cntV a = cntA A1 C1 B1 O1 R1 X1) := by show _ = _; unfold cntV; rw [hO1, hA1, hC1, hB1, hR1, hX1]
    have HV2 : Hid (cntV b = cntA A2 C2 B2 O2 R2 X2) := by show _ = _; unfold cntV; rw [hO2, hA2, hC2, hB2, hR2, hX2]
    have HV3 : Hid (cntV m = cntA (A1 + A2) (C1 + C2) (B1 + B2) (O1 + O2) (R1 + R2) (X1 + X2)) := by
      show _ = _
      have e1 : ((attS m).length : Int) = A1 + A2 := by rw [HB.out.attN, hA1, hA2]; omega
      have e2 : (stN m 3 : Int) = C1 + C2 := by rw [HB.out.stN, hC1, hC2]; omega
      have e3 : (stN m 4 : Int) = B1 + B2 := by rw [HB.out.stN, hB1, hB2]; omega
      have e4 : (kdN 2 m : Int) = R1 + R2 := by rw [HB.out.kdN, hR1, hR2]; omega
      have e5 : (kdN 3 m : Int) = X1 + X2 := by rw [HB.out.kdN, hX1, hX2]; omega
      unfold cntV
      rw [e1, e2, e3, e4, e5]
      have e6 : A1 + A2 - (C1 + C2) - (B1 + B2) = O1 + O2 := by omega
      rw [e6]
    have ba := HLE.out
    have b1 := attS_le a
    have b2 := stN_le a 3
    have b3 := stN_le a 4
    have b4 := kdN_le 2 a
    have b5 := kdN_le 3 a
    have d1 := attS_le b
    have d2 := stN_le b 3
    have d3 := stN_le b 4
    have d4 := kdN_le 2 b
    have d5 := kdN_le 3 b
    have wr1 : IntKind.i64.wrap (A1 + A2) = A1 + A2 := by rw [IntKind.wrap_i64]; omega
    have wr2 : IntKind.i64.wrap (C1 + C2) = C1 + C2 := by rw [IntKind.wrap_i64]; omega
    have wr3 : IntKind.i64.wrap (B1 + B2) = B1 + B2 := by rw [IntKind.wrap_i64]; omega
    have wr4 : IntKind.i64.wrap (O1 + O2) = O1 + O2 := by rw [IntKind.wrap_i64]; omega
    have wr5 : IntKind.i64.wrap (R1 + R2) = R1 + R2 := by rw [IntKind.wrap_i64]; omega
    have wr6 : IntKind.i64.wrap (X1 + X2) = X1 + X2 := by rw [IntKind.wrap_i64]; omega
    have HRA : Hid (∀ W, Touch _ W [] → EvRow W (.slice ao La ca) a ∧ EvRow W (.slice bo Lb cb) b) := fun W t => ⟨by rw [HLAB.out.1]; exact SRow.keep HRW.out.1 t (by simp), by rw [HLAB.out.2]; exact SRow.keep HRW.out.2 t (by simp)⟩
    have HK1 : Hid (∀ W, Touch _ W [] → HidC Tryd.prog 11 #[.slice ao La ca] W fun e w' => e = .returned (.agg (cntA A1 C1 B1 O1 R1 X1)) ∧ Touch W w' []) := fun W t => ⟨by rw [HLAB.out.1]; exact counts_of (SRow.keep HRW.out.1 t (by simp)) (by have := HLE.out.1; omega) HWF.out.1 HV1.out⟩
    have HK2 : Hid (∀ W, Touch _ W [] → HidC Tryd.prog 11 #[.slice bo Lb cb] W fun e w' => e = .returned (.agg (cntA A2 C2 B2 O2 R2 X2)) ∧ Touch W w' []) := fun W t => ⟨by rw [HLAB.out.2]; exact counts_of (SRow.keep HRW.out.2 t (by simp)) (by have := HLE.out.2; omega) HWF.out.2 HV2.out⟩
    have HK3 : Hid (∀ W, Touch w1 W [] → HidC Tryd.prog 11 #[.slice mo m.length mc] W fun e w' => e = .returned (.agg (cntA (A1 + A2) (C1 + C2) (B1 + B2) (O1 + O2) (R1 + R2) (X1 + X2))) ∧ Touch W w' []) := fun W t => ⟨counts_of (SRow.keep RM.out t (by simp)) (by have := HML.out; omega) HWM.out HV3.out⟩
    have HT1 : Hid (∀ W, Touch _ W [] → HidC Tryd.prog 12 #[.slice ao La ca] W fun x w' => ∃ ao' cap', x = .returned (.slice ao' (attS a).length cap') ∧ AtI w' ao' (attS a) ∧ Touch W w' []) := fun W t => ⟨by rw [HLAB.out.1]; exact attempts_at (SRow.keep HRW.out.1 t (by simp)) (by have := HLE.out.1; omega) HWF.out.1⟩
    have HT2 : Hid (∀ W, Touch w1 W [] → HidC Tryd.prog 12 #[.slice mo m.length mc] W fun x w' => ∃ ao' cap', x = .returned (.slice ao' (attS m).length cap') ∧ AtI w' ao' (attS m) ∧ Touch W w' []) := fun W t => ⟨attempts_at (SRow.keep RM.out t (by simp)) (by have := HML.out; omega) HWM.out⟩
    have HST : Hid (∀ W p, Touch _ W [] → W64 p → HidC Tryd.prog 13 #[.slice ao La ca, .int .i64 p] W fun x w' => x = .returned (.int .u8 (stateS a p)) ∧ Touch W w' []) := fun W p t hp => ⟨by rw [HLAB.out.1]; exact stateOf_any (SRow.keep HRW.out.1 t (by simp)) (by have := HLE.out.1; omega) HWF.out.1 p hp⟩
    have HBE : Hid (∀ W p q, Touch w1 W [] → HidC Tryd.prog 14 #[.slice mo m.length mc, .int .i64 p, .int .i64 q] W fun x w' => x = .returned (.bool (befS p q false m)) ∧ Touch W w' []) := fun W p q t => ⟨before_any (SRow.keep RM.out t (by simp)) (by have := HML.out; omega) p q⟩
    have HRI : Hid (∀ W, Touch w1 W [] → HidC Tryd.prog 15 #[.slice mo m.length mc] W fun x w' => x = .returned (.bool true) ∧ Touch W w' []) := fun W t => ⟨by have h := right_of (SRow.keep RM.out t (by simp)) (by have := HML.out; omega) HWM.out; rw [HB.out.right] at h; exact h⟩
    have HAW : Hid (∀ x ∈ attS a, W64 x) := attS_wf HWF.out.1
    have HBF0 : Hid (∀ i (hi : i < (attS a).length) k (hk : k < (attS m).length), (attS a).length ≤ k → befS (attS a)[i] (attS m)[k] false m = (decide (stateS a (attS a)[i] = 3) || decide (stateS a (attS a)[i] = 4))) := fun i hi k hk hle => by
      refine HB.out.bef (List.getElem_mem hi) ?_
      have e := HB.out.att
      have hk2 : k < (attS a ++ (attS b).map (· + n)).length := by rw [← e]; exact hk
      have e2 : (attS m)[k] = (attS a ++ (attS b).map (· + n))[k] := by simp only [e]
      rw [e2, List.getElem_append_right hle]
      exact List.getElem_mem _
    have HPQ : Hid ((attS a).length ≤ 60) := by have := HLE.out.1; have := attS_le a; show _ ≤ _; omega
    have HQL : Hid ((attS m).length ≤ 400) := Nat.le_trans (attS_le m) HML.out
    clear ba b1 b2 b3 b4 b5 d1 d2 d3 d4 d5 hA1 hC1 hB1 hR1 hX1 hO1 hA2 hC2 hB2 hR2 hX2 hO2 HV1 HV2 HV3 HRA RM
    generalize attS a = P at *
    generalize hQm : attS m = Q at *
    clear hQm
    generalize m.length = NM at *
    go_wp2_with fail
    refine (HK1.out _ T1.out).out.mono ?_
    rintro e w2 ⟨rfl, t2⟩
    have T12 : Hid (Touch w1 w2 []) := t2
    clear t2 HK1
    go_wp2_with fail
    refine (HK2.out _ (T1.out.trans T12.out (by simp))).out.mono ?_
    rintro e w3 ⟨rfl, t3⟩
    have T13 : Hid (Touch w1 w3 []) := T12.out.trans t3 (by simp)
    clear t3 HK2 T12
    go_wp2_with fail
    refine (HK3.out _ T13.out).out.mono ?_
    rintro e w4 ⟨rfl, t4⟩
    have T14 : Hid (Touch w1 (((w4.alloc (.cells (cntA A1 C1 B1 O1 R1 X1) 30)).alloc (.cells (cntA A2 C2 B2 O2 R2 X2) 30)).alloc (.cells (cntA (A1 + A2) (C1 + C2) (B1 + B2) (O1 + O2) (R1 + R2) (X1 + X2)) 30)) []) := (((T13.out.trans t4 (by simp)).alloc _).alloc _).alloc _
    clear t4 HK3 T13
    unfold cntA at T14 ⊢
    go_wp2_with fail
    generalize (((w4.alloc (.cells #[.int .i64 A1, .int .i64 C1, .int .i64 B1, .int .i64 O1, .int .i64 R1, .int .i64 X1] 30)).alloc (.cells #[.int .i64 A2, .int .i64 C2, .int .i64 B2, .int .i64 O2, .int .i64 R2, .int .i64 X2] 30)).alloc (.cells #[.int .i64 (A1 + A2), .int .i64 (C1 + C2), .int .i64 (B1 + B2), .int .i64 (O1 + O2), .int .i64 (R1 + R2), .int .i64 (X1 + X2)] 30)) = w5 at *
    clear wr1 wr2 wr3 wr4 wr5 wr6
    refine (HT1.out _ (T1.out.trans T14.out (by simp))).out.mono ?_
    rintro e w6 ⟨ap, cp1, rfl, ip, t6⟩
    have T16 : Hid (Touch w1 w6 []) := T14.out.trans t6 (by simp)
    have IP6 : Hid _ := ip
    clear t6 ip T14 HT1
    go_wp2_with fail
    refine (HT2.out _ T16.out).out.mono ?_
    rintro e w7 ⟨aq, cq1, rfl, iq, t7⟩
    have T17 : Hid (Touch w1 w7 []) := T16.out.trans t7 (by simp)
    have IP : Hid (AtI w7 ap P) := IP6.out.touch t7
    have IQ : Hid (AtI w7 aq Q) := iq
    clear t7 iq T16 IP6 HT2
    obtain ⟨NP, hNP⟩ : ∃ x, x = P.length := ⟨_, rfl⟩
    obtain ⟨NQ, hNQ⟩ : ∃ x, x = Q.length := ⟨_, rfl⟩
    have HNP : Hid (NP = P.length ∧ NQ = Q.length) := ⟨hNP, hNQ⟩
    have hp60 : NP ≤ 60 := by rw [hNP]; exact HPQ.out
    have hq400 : NQ ≤ 400 := by rw [hNQ]; exact HQL.out
    rw [← hNP, ← hNQ]
    clear hNP hNQ
    go_wp2_with fail
    go_loopw [12] (fun iv wr => ∃ i : Nat, iv = .int .i64 i ∧ i ≤ NP ∧ Touch w7 wr []) (fun iv _ => NP - (intOf iv).toNat)
    case atStart => exact ⟨0, rfl, Nat.zero_le _, Touch.refl _ _⟩
    case round =>
      obtain ⟨i, rfl, hi, hT⟩ := hrel
      have HTT : Hid (Touch w1 wr []) := T17.out.trans hT (by simp)
      have HT7 : Hid (Touch w7 wr []) := hT
      by_cases hlt : i < NP
      · have h1 : (i : Int) < NP := by omega
        have h0 : (0 : Int) ≤ i := by omega
        have hil : i < P.length := by rw [← HNP.out.1]; exact hlt
        obtain ⟨gp, hao, hgp0, cp0⟩ := IP.out.at' i hil
        subst hao
        have cp := (hT.cell (p := ⟨gp, i, none⟩) hgp0 (by simp)).trans cp0
        have HPW := HAW.out _ (List.getElem_mem hil)
        have HBI : Hid (∀ k (hk : k < Q.length), P.length ≤ k → befS P[i] Q[k] false m = (decide (stateS a P[i] = 3) || decide (stateS a P[i] = 4))) := fun k hk hle => HBF0.out i hil k hk hle
        have HCP : Hid (gp < w7.heap.size ∧ w7.cell? ⟨gp, i, none⟩ = some (.int .i64 P[i])) := ⟨hgp0, cp0⟩
        clear hT cp0 hgp0
        generalize P[i] = p at *
        have HS1 := (HST.out wr p (T1.out.trans HTT.out (by simp)) HPW).out
        generalize stateS a p = st at *
        clear HPW
        go_wp2_with fail
        refine HS1.mono ?_
        rintro e w8 ⟨rfl, t8⟩
        have T78 : Hid (Touch w7 w8 []) := HT7.out.trans t8 (by simp)
        have hi' : i < NP := hlt
        clear t8 HS1 HT7 HTT cp
        go_wp2_with fail
        go_loopw [14] (fun kv wv => ∃ k : Nat, kv = .int .i64 k ∧ NP ≤ k ∧ (k ≤ NQ ∨ k = NP) ∧ Touch w7 wv []) (fun kv _ => NQ - (intOf kv).toNat)
        case atStart => exact ⟨NP, rfl, Nat.le_refl _, .inr rfl, T78.out⟩
        case round =>
          obtain ⟨k, rfl, hk1, hk2, hT⟩ := hrel
          have HT7 : Hid (Touch w7 wr []) := hT
          have HT : Hid (Touch w1 wr []) := T17.out.trans hT (by simp)
          by_cases hkl : k < NQ
          · have h1k : (k : Int) < NQ := by omega
            have h0k : (0 : Int) ≤ k := by omega
            have hkq : k < Q.length := by rw [← HNP.out.2]; exact hkl
            obtain ⟨gq, hao, hgq0, cq0⟩ := IQ.out.at' k hkq
            subst hao
            have cq := (hT.cell (p := ⟨gq, k, none⟩) hgq0 (by simp)).trans cq0
            have cp := (hT.cell (p := ⟨gp, i, none⟩) HCP.out.1 (by simp)).trans HCP.out.2
            have hgp : gp < wr.heap.size := Nat.lt_of_lt_of_le HCP.out.1 hT.size
            have hgq : gq < wr.heap.size := Nat.lt_of_lt_of_le hgq0 hT.size
            have hbf := HBI.out k hkq (by rw [← HNP.out.1]; exact hk1)
            clear hT cq0 hgq0
            generalize Q[k] = q at *
            have HBF : Hid (∀ W, Touch w1 W [] → HidC Tryd.prog 14 #[.slice mo NM mc, .int .i64 p, .int .i64 q] W fun x w' => x = .returned (.bool (decide (st = 3) || decide (st = 4))) ∧ Touch W w' []) := fun W t => by rw [← hbf]; exact HBE.out W p q t
            clear hbf
            by_cases h3 : st = 3
            · subst h3
              replace HBF : Hid (∀ W, Touch w1 W [] → HidC Tryd.prog 14 #[.slice mo NM mc, .int .i64 p, .int .i64 q] W fun x w' => x = .returned (.bool true) ∧ Touch W w' []) := HBF.out
              go_wp2_with fail
              refine wp_region_held_drew (S := (fun W : World => W.cell? ⟨gp, i, none⟩ = some (.int .i64 p) ∧ W.cell? ⟨gq, k, none⟩ = some (.int .i64 q))) (by kernel_rfl) ⟨by simpa using cp, by simpa using cq⟩ (fun hHeld => ?_)
              try simp only [Act.put, List.getElem_toArray, List.getElem_cons_succ, List.getElem_cons_zero, List.setIfInBounds_toArray, List.set_cons_zero, List.set_cons_succ]
              refine wpAnyH_take (i := 0) (v := (.slice mo NM mc)) rfl (by kernel_rfl) (by kernel_rfl) (by kernel_rfl) (fun _ _ _ h => h) (Or.inl ⟨by rfl, ?_⟩) hHeld ?_
              · intro w' hSw
                try simp only [Act.put, List.getElem_toArray, List.getElem_cons_succ, List.getElem_cons_zero, List.setIfInBounds_toArray, List.set_cons_zero, List.set_cons_succ]
                (obtain ⟨q0, q1⟩ := hSw; go_simp)
              try simp only [Act.put, List.getElem_toArray, List.getElem_cons_succ, List.getElem_cons_zero, List.setIfInBounds_toArray, List.set_cons_zero, List.set_cons_succ]
              refine wpAnyH_take (i := 1) (v := (.slice (some ⟨gp, 0, none⟩) NP cp1)) rfl (by kernel_rfl) (by kernel_rfl) (by kernel_rfl) (fun _ _ _ h => h) (Or.inl ⟨by rfl, ?_⟩) hHeld ?_
              · intro w' hSw
                try simp only [Act.put, List.getElem_toArray, List.getElem_cons_succ, List.getElem_cons_zero, List.setIfInBounds_toArray, List.set_cons_zero, List.set_cons_succ]
                (obtain ⟨q0, q1⟩ := hSw; go_simp)
              try simp only [Act.put, List.getElem_toArray, List.getElem_cons_succ, List.getElem_cons_zero, List.setIfInBounds_toArray, List.set_cons_zero, List.set_cons_succ]
              refine wpAnyH_take (i := 2) (v := (.int .i64 (i : Nat))) rfl (by kernel_rfl) (by kernel_rfl) (by kernel_rfl) (fun _ _ _ h => h) (Or.inl ⟨by rfl, ?_⟩) hHeld ?_
              · intro w' hSw
                try simp only [Act.put, List.getElem_toArray, List.getElem_cons_succ, List.getElem_cons_zero, List.setIfInBounds_toArray, List.set_cons_zero, List.set_cons_succ]
                (obtain ⟨q0, q1⟩ := hSw; go_simp)
              try simp only [Act.put, List.getElem_toArray, List.getElem_cons_succ, List.getElem_cons_zero, List.setIfInBounds_toArray, List.set_cons_zero, List.set_cons_succ]
              refine wpAnyH_take (i := 3) (v := (.pointer (some ⟨gp, i, none⟩))) rfl (by kernel_rfl) (by kernel_rfl) (by kernel_rfl) (fun _ _ _ h => h) (Or.inl ⟨by rfl, ?_⟩) hHeld ?_
              · intro w' hSw
                try simp only [Act.put, List.getElem_toArray, List.getElem_cons_succ, List.getElem_cons_zero, List.setIfInBounds_toArray, List.set_cons_zero, List.set_cons_succ]
                (obtain ⟨q0, q1⟩ := hSw; go_simp)
              try simp only [Act.put, List.getElem_toArray, List.getElem_cons_succ, List.getElem_cons_zero, List.setIfInBounds_toArray, List.set_cons_zero, List.set_cons_succ]
              refine wpAnyH_take (i := 4) (v := (.int .i64 p)) rfl (by kernel_rfl) (by kernel_rfl) (by kernel_rfl) (fun _ _ _ h => h) (Or.inl ⟨by rfl, ?_⟩) hHeld ?_
              · intro w' hSw
                try simp only [Act.put, List.getElem_toArray, List.getElem_cons_succ, List.getElem_cons_zero, List.setIfInBounds_toArray, List.set_cons_zero, List.set_cons_succ]
                (obtain ⟨q0, q1⟩ := hSw; go_simp)
              try simp only [Act.put, List.getElem_toArray, List.getElem_cons_succ, List.getElem_cons_zero, List.setIfInBounds_toArray, List.set_cons_zero, List.set_cons_succ]
              refine wpAnyH_take (i := 5) (v := (.slice (some ⟨gq, 0, none⟩) NQ cq1)) rfl (by kernel_rfl) (by kernel_rfl) (by kernel_rfl) (fun _ _ _ h => h) (Or.inl ⟨by rfl, ?_⟩) hHeld ?_
              · intro w' hSw
                try simp only [Act.put, List.getElem_toArray, List.getElem_cons_succ, List.getElem_cons_zero, List.setIfInBounds_toArray, List.set_cons_zero, List.set_cons_succ]
                (obtain ⟨q0, q1⟩ := hSw; go_simp)
              try simp only [Act.put, List.getElem_toArray, List.getElem_cons_succ, List.getElem_cons_zero, List.setIfInBounds_toArray, List.set_cons_zero, List.set_cons_succ]
              refine wpAnyH_take (i := 6) (v := (.int .i64 (k : Nat))) rfl (by kernel_rfl) (by kernel_rfl) (by kernel_rfl) (fun _ _ _ h => h) (Or.inl ⟨by rfl, ?_⟩) hHeld ?_
              · intro w' hSw
                try simp only [Act.put, List.getElem_toArray, List.getElem_cons_succ, List.getElem_cons_zero, List.setIfInBounds_toArray, List.set_cons_zero, List.set_cons_succ]
                (obtain ⟨q0, q1⟩ := hSw; go_simp)
              try simp only [Act.put, List.getElem_toArray, List.getElem_cons_succ, List.getElem_cons_zero, List.setIfInBounds_toArray, List.set_cons_zero, List.set_cons_succ]
              refine wpAnyH_take (i := 7) (v := (.pointer (some ⟨gq, k, none⟩))) rfl (by kernel_rfl) (by kernel_rfl) (by kernel_rfl) (fun _ _ _ h => h) (Or.inl ⟨by rfl, ?_⟩) hHeld ?_
              · intro w' hSw
                try simp only [Act.put, List.getElem_toArray, List.getElem_cons_succ, List.getElem_cons_zero, List.setIfInBounds_toArray, List.set_cons_zero, List.set_cons_succ]
                (obtain ⟨q0, q1⟩ := hSw; go_simp)
              try simp only [Act.put, List.getElem_toArray, List.getElem_cons_succ, List.getElem_cons_zero, List.setIfInBounds_toArray, List.set_cons_zero, List.set_cons_succ]
              refine wpAnyH_take (i := 8) (v := (.int .i64 q)) rfl (by kernel_rfl) (by kernel_rfl) (by kernel_rfl) (fun _ _ _ h => h) (Or.inl ⟨by rfl, ?_⟩) hHeld ?_
              · intro w' hSw
                try simp only [Act.put, List.getElem_toArray, List.getElem_cons_succ, List.getElem_cons_zero, List.setIfInBounds_toArray, List.set_cons_zero, List.set_cons_succ]
                (obtain ⟨q0, q1⟩ := hSw; go_simp)
              try simp only [Act.put, List.getElem_toArray, List.getElem_cons_succ, List.getElem_cons_zero, List.setIfInBounds_toArray, List.set_cons_zero, List.set_cons_succ]
              refine wpAnyH_take (i := 10) (v := (.int .u8 3)) rfl (by kernel_rfl) (by kernel_rfl) (by kernel_rfl) (fun _ _ _ h => h) (Or.inl ⟨by rfl, ?_⟩) hHeld ?_
              · intro w' hSw
                try simp only [Act.put, List.getElem_toArray, List.getElem_cons_succ, List.getElem_cons_zero, List.setIfInBounds_toArray, List.set_cons_zero, List.set_cons_succ]
                (obtain ⟨q0, q1⟩ := hSw; go_simp)
              try simp only [Act.put, List.getElem_toArray, List.getElem_cons_succ, List.getElem_cons_zero, List.setIfInBounds_toArray, List.set_cons_zero, List.set_cons_succ]
              refine wpAnyH_take (i := 11) (v := (.bool true)) rfl (by kernel_rfl) (by kernel_rfl) (by kernel_rfl) (fun _ _ _ h => h) (Or.inl ⟨by rfl, ?_⟩) hHeld ?_
              · intro w' hSw
                try simp only [Act.put, List.getElem_toArray, List.getElem_cons_succ, List.getElem_cons_zero, List.setIfInBounds_toArray, List.set_cons_zero, List.set_cons_succ]
                (obtain ⟨q0, q1⟩ := hSw; go_simp)
              try simp only [Act.put, List.getElem_toArray, List.getElem_cons_succ, List.getElem_cons_zero, List.setIfInBounds_toArray, List.set_cons_zero, List.set_cons_succ]
              clear hHeld
              refine wpAnyH_ready (rs := [9]) (by kernel_rfl) (by simp) (AllReadyH.cons rfl (fun K hK => ?_) (AllReadyH.nil))
              rw [if_pos (by rfl)]
              go_simp
              refine (HBF.out _ (HT.out.drew)).out.mono ?_
              rintro y w5 ⟨rfl, t5⟩
              have T5 : Hid (Touch wr w5 []) := ((Touch.refl wr []).drew).trans t5 (by simp)
              have HK5 : Hid (w5.cell? ⟨gp, i, none⟩ = some (.int .i64 p) ∧ w5.cell? ⟨gq, k, none⟩ = some (.int .i64 q)) := ⟨(T5.out.cell hgp (by simp)).trans cp, (T5.out.cell hgq (by simp)).trans cq⟩
              clear t5
              go_simp
              refine hK.out _ _ HK5.out (fun hHeld => ?_)
              clear hK
              try simp only [Act.put, List.getElem_toArray, List.getElem_cons_succ, List.getElem_cons_zero, List.setIfInBounds_toArray, List.set_cons_zero, List.set_cons_succ]
              refine wpAnyH_take (i := 12) (v := (.bool true)) rfl (by kernel_rfl) (by kernel_rfl) (by kernel_rfl) (fun _ _ _ h => h) (Or.inl ⟨by rfl, ?_⟩) hHeld ?_
              · intro w' hSw
                try simp only [Act.put, List.getElem_toArray, List.getElem_cons_succ, List.getElem_cons_zero, List.setIfInBounds_toArray, List.set_cons_zero, List.set_cons_succ]
                (obtain ⟨q0, q1⟩ := hSw; go_simp)
              try simp only [Act.put, List.getElem_toArray, List.getElem_cons_succ, List.getElem_cons_zero, List.setIfInBounds_toArray, List.set_cons_zero, List.set_cons_succ]
              refine wpAnyH_take (i := 13) (v := undef) rfl (by kernel_rfl) (by kernel_rfl) (by kernel_rfl) (fun _ _ _ h => h) (Or.inr ⟨by rfl, rfl⟩) hHeld ?_
              try simp only [Act.put, List.getElem_toArray, List.getElem_cons_succ, List.getElem_cons_zero, List.setIfInBounds_toArray, List.set_cons_zero, List.set_cons_succ]
              refine wpAnyH_take (i := 14) (v := undef) rfl (by kernel_rfl) (by kernel_rfl) (by kernel_rfl) (fun _ _ _ h => h) (Or.inr ⟨by rfl, rfl⟩) hHeld ?_
              try simp only [Act.put, List.getElem_toArray, List.getElem_cons_succ, List.getElem_cons_zero, List.setIfInBounds_toArray, List.set_cons_zero, List.set_cons_succ]
              refine wpAnyH_take (i := 15) (v := (.bool true)) rfl (by kernel_rfl) (by kernel_rfl) (by kernel_rfl) (fun _ _ _ h => h) (Or.inl ⟨by rfl, ?_⟩) hHeld ?_
              · intro w' hSw
                try simp only [Act.put, List.getElem_toArray, List.getElem_cons_succ, List.getElem_cons_zero, List.setIfInBounds_toArray, List.set_cons_zero, List.set_cons_succ]
                (obtain ⟨q0, q1⟩ := hSw; go_simp)
              try simp only [Act.put, List.getElem_toArray, List.getElem_cons_succ, List.getElem_cons_zero, List.setIfInBounds_toArray, List.set_cons_zero, List.set_cons_succ]
              refine wpAnyH_take (i := 16) (v := (.bool false)) rfl (by kernel_rfl) (by kernel_rfl) (by kernel_rfl) (fun _ _ _ h => h) (Or.inl ⟨by rfl, ?_⟩) hHeld ?_
              · intro w' hSw
                try simp only [Act.put, List.getElem_toArray, List.getElem_cons_succ, List.getElem_cons_zero, List.setIfInBounds_toArray, List.set_cons_zero, List.set_cons_succ]
                (obtain ⟨q0, q1⟩ := hSw; go_simp)
              try simp only [Act.put, List.getElem_toArray, List.getElem_cons_succ, List.getElem_cons_zero, List.setIfInBounds_toArray, List.set_cons_zero, List.set_cons_succ]
              clear hHeld
              refine wpAnyH_done (by kernel_rfl) ?_ _
              go_wp2
              go_roundw
              case rel => exact ⟨k + 1, by go_num, by omega, by omega, HT7.out.trans T5.out (by simp)⟩
              case measure => simp [intOf]; omega
            · have p3 : (st == 3) = false := by simpa using h3
              replace HBF : Hid (∀ W, Touch w1 W [] → HidC Tryd.prog 14 #[.slice mo NM mc, .int .i64 p, .int .i64 q] W fun x w' => x = .returned (.bool (st == 4)) ∧ Touch W w' []) := fun W t => by
                have e : (decide (st = 3) || decide (st = 4)) = (st == 4) := by rw [decide_eq_false h3, Bool.false_or]; rfl
                rw [← e]
                exact HBF.out W t
              clear h3
              go_wp2_with fail
              refine wp_region_held_drew (S := (fun W : World => W.cell? ⟨gp, i, none⟩ = some (.int .i64 p) ∧ W.cell? ⟨gq, k, none⟩ = some (.int .i64 q))) (by kernel_rfl) ⟨by simpa using cp, by simpa using cq⟩ (fun hHeld => ?_)
              try simp only [Act.put, List.getElem_toArray, List.getElem_cons_succ, List.getElem_cons_zero, List.setIfInBounds_toArray, List.set_cons_zero, List.set_cons_succ]
              refine wpAnyH_take (i := 0) (v := (.slice mo NM mc)) rfl (by kernel_rfl) (by kernel_rfl) (by kernel_rfl) (fun _ _ _ h => h) (Or.inl ⟨by rfl, ?_⟩) hHeld ?_
              · intro w' hSw
                try simp only [Act.put, List.getElem_toArray, List.getElem_cons_succ, List.getElem_cons_zero, List.setIfInBounds_toArray, List.set_cons_zero, List.set_cons_succ]
                (obtain ⟨q0, q1⟩ := hSw; go_simp)
              try simp only [Act.put, List.getElem_toArray, List.getElem_cons_succ, List.getElem_cons_zero, List.setIfInBounds_toArray, List.set_cons_zero, List.set_cons_succ]
              refine wpAnyH_take (i := 1) (v := (.slice (some ⟨gp, 0, none⟩) NP cp1)) rfl (by kernel_rfl) (by kernel_rfl) (by kernel_rfl) (fun _ _ _ h => h) (Or.inl ⟨by rfl, ?_⟩) hHeld ?_
              · intro w' hSw
                try simp only [Act.put, List.getElem_toArray, List.getElem_cons_succ, List.getElem_cons_zero, List.setIfInBounds_toArray, List.set_cons_zero, List.set_cons_succ]
                (obtain ⟨q0, q1⟩ := hSw; go_simp)
              try simp only [Act.put, List.getElem_toArray, List.getElem_cons_succ, List.getElem_cons_zero, List.setIfInBounds_toArray, List.set_cons_zero, List.set_cons_succ]
              refine wpAnyH_take (i := 2) (v := (.int .i64 (i : Nat))) rfl (by kernel_rfl) (by kernel_rfl) (by kernel_rfl) (fun _ _ _ h => h) (Or.inl ⟨by rfl, ?_⟩) hHeld ?_
              · intro w' hSw
                try simp only [Act.put, List.getElem_toArray, List.getElem_cons_succ, List.getElem_cons_zero, List.setIfInBounds_toArray, List.set_cons_zero, List.set_cons_succ]
                (obtain ⟨q0, q1⟩ := hSw; go_simp)
              try simp only [Act.put, List.getElem_toArray, List.getElem_cons_succ, List.getElem_cons_zero, List.setIfInBounds_toArray, List.set_cons_zero, List.set_cons_succ]
              refine wpAnyH_take (i := 3) (v := (.pointer (some ⟨gp, i, none⟩))) rfl (by kernel_rfl) (by kernel_rfl) (by kernel_rfl) (fun _ _ _ h => h) (Or.inl ⟨by rfl, ?_⟩) hHeld ?_
              · intro w' hSw
                try simp only [Act.put, List.getElem_toArray, List.getElem_cons_succ, List.getElem_cons_zero, List.setIfInBounds_toArray, List.set_cons_zero, List.set_cons_succ]
                (obtain ⟨q0, q1⟩ := hSw; go_simp)
              try simp only [Act.put, List.getElem_toArray, List.getElem_cons_succ, List.getElem_cons_zero, List.setIfInBounds_toArray, List.set_cons_zero, List.set_cons_succ]
              refine wpAnyH_take (i := 4) (v := (.int .i64 p)) rfl (by kernel_rfl) (by kernel_rfl) (by kernel_rfl) (fun _ _ _ h => h) (Or.inl ⟨by rfl, ?_⟩) hHeld ?_
              · intro w' hSw
                try simp only [Act.put, List.getElem_toArray, List.getElem_cons_succ, List.getElem_cons_zero, List.setIfInBounds_toArray, List.set_cons_zero, List.set_cons_succ]
                (obtain ⟨q0, q1⟩ := hSw; go_simp)
              try simp only [Act.put, List.getElem_toArray, List.getElem_cons_succ, List.getElem_cons_zero, List.setIfInBounds_toArray, List.set_cons_zero, List.set_cons_succ]
              refine wpAnyH_take (i := 5) (v := (.slice (some ⟨gq, 0, none⟩) NQ cq1)) rfl (by kernel_rfl) (by kernel_rfl) (by kernel_rfl) (fun _ _ _ h => h) (Or.inl ⟨by rfl, ?_⟩) hHeld ?_
              · intro w' hSw
                try simp only [Act.put, List.getElem_toArray, List.getElem_cons_succ, List.getElem_cons_zero, List.setIfInBounds_toArray, List.set_cons_zero, List.set_cons_succ]
                (obtain ⟨q0, q1⟩ := hSw; go_simp)
              try simp only [Act.put, List.getElem_toArray, List.getElem_cons_succ, List.getElem_cons_zero, List.setIfInBounds_toArray, List.set_cons_zero, List.set_cons_succ]
              refine wpAnyH_take (i := 6) (v := (.int .i64 (k : Nat))) rfl (by kernel_rfl) (by kernel_rfl) (by kernel_rfl) (fun _ _ _ h => h) (Or.inl ⟨by rfl, ?_⟩) hHeld ?_
              · intro w' hSw
                try simp only [Act.put, List.getElem_toArray, List.getElem_cons_succ, List.getElem_cons_zero, List.setIfInBounds_toArray, List.set_cons_zero, List.set_cons_succ]
                (obtain ⟨q0, q1⟩ := hSw; go_simp)
              try simp only [Act.put, List.getElem_toArray, List.getElem_cons_succ, List.getElem_cons_zero, List.setIfInBounds_toArray, List.set_cons_zero, List.set_cons_succ]
              refine wpAnyH_take (i := 7) (v := (.pointer (some ⟨gq, k, none⟩))) rfl (by kernel_rfl) (by kernel_rfl) (by kernel_rfl) (fun _ _ _ h => h) (Or.inl ⟨by rfl, ?_⟩) hHeld ?_
              · intro w' hSw
                try simp only [Act.put, List.getElem_toArray, List.getElem_cons_succ, List.getElem_cons_zero, List.setIfInBounds_toArray, List.set_cons_zero, List.set_cons_succ]
                (obtain ⟨q0, q1⟩ := hSw; go_simp)
              try simp only [Act.put, List.getElem_toArray, List.getElem_cons_succ, List.getElem_cons_zero, List.setIfInBounds_toArray, List.set_cons_zero, List.set_cons_succ]
              refine wpAnyH_take (i := 8) (v := (.int .i64 q)) rfl (by kernel_rfl) (by kernel_rfl) (by kernel_rfl) (fun _ _ _ h => h) (Or.inl ⟨by rfl, ?_⟩) hHeld ?_
              · intro w' hSw
                try simp only [Act.put, List.getElem_toArray, List.getElem_cons_succ, List.getElem_cons_zero, List.setIfInBounds_toArray, List.set_cons_zero, List.set_cons_succ]
                (obtain ⟨q0, q1⟩ := hSw; go_simp)
              try simp only [Act.put, List.getElem_toArray, List.getElem_cons_succ, List.getElem_cons_zero, List.setIfInBounds_toArray, List.set_cons_zero, List.set_cons_succ]
              refine wpAnyH_take (i := 10) (v := (.int .u8 st)) rfl (by kernel_rfl) (by kernel_rfl) (by kernel_rfl) (fun _ _ _ h => h) (Or.inl ⟨by rfl, ?_⟩) hHeld ?_
              · intro w' hSw
                try simp only [Act.put, List.getElem_toArray, List.getElem_cons_succ, List.getElem_cons_zero, List.setIfInBounds_toArray, List.set_cons_zero, List.set_cons_succ]
                (obtain ⟨q0, q1⟩ := hSw; go_simp)
              try simp only [Act.put, List.getElem_toArray, List.getElem_cons_succ, List.getElem_cons_zero, List.setIfInBounds_toArray, List.set_cons_zero, List.set_cons_succ]
              refine wpAnyH_take (i := 11) (v := (.bool false)) rfl (by kernel_rfl) (by kernel_rfl) (by kernel_rfl) (fun _ _ _ h => h) (Or.inl ⟨by rfl, ?_⟩) hHeld ?_
              · intro w' hSw
                try simp only [Act.put, List.getElem_toArray, List.getElem_cons_succ, List.getElem_cons_zero, List.setIfInBounds_toArray, List.set_cons_zero, List.set_cons_succ]
                (obtain ⟨q0, q1⟩ := hSw; go_simp)
              try simp only [Act.put, List.getElem_toArray, List.getElem_cons_succ, List.getElem_cons_zero, List.setIfInBounds_toArray, List.set_cons_zero, List.set_cons_succ]
              clear hHeld
              refine wpAnyH_ready (rs := [9]) (by kernel_rfl) (by simp) (AllReadyH.cons rfl (fun K hK => ?_) (AllReadyH.nil))
              rw [if_pos (by rfl)]
              go_simp
              refine (HBF.out _ (HT.out.drew)).out.mono ?_
              rintro y w5 ⟨rfl, t5⟩
              have T5 : Hid (Touch wr w5 []) := ((Touch.refl wr []).drew).trans t5 (by simp)
              have HK5 : Hid (w5.cell? ⟨gp, i, none⟩ = some (.int .i64 p) ∧ w5.cell? ⟨gq, k, none⟩ = some (.int .i64 q)) := ⟨(T5.out.cell hgp (by simp)).trans cp, (T5.out.cell hgq (by simp)).trans cq⟩
              clear t5
              go_simp
              refine hK.out _ _ HK5.out (fun hHeld => ?_)
              clear hK
              try simp only [Act.put, List.getElem_toArray, List.getElem_cons_succ, List.getElem_cons_zero, List.setIfInBounds_toArray, List.set_cons_zero, List.set_cons_succ]
              refine wpAnyH_take (i := 12) (v := (.bool false)) rfl (by kernel_rfl) (by kernel_rfl) (by kernel_rfl) (fun _ _ _ h => h) (Or.inl ⟨by rfl, ?_⟩) hHeld ?_
              · intro w' hSw
                try simp only [Act.put, List.getElem_toArray, List.getElem_cons_succ, List.getElem_cons_zero, List.setIfInBounds_toArray, List.set_cons_zero, List.set_cons_succ]
                (obtain ⟨q0, q1⟩ := hSw; go_simp)
              try simp only [Act.put, List.getElem_toArray, List.getElem_cons_succ, List.getElem_cons_zero, List.setIfInBounds_toArray, List.set_cons_zero, List.set_cons_succ]
              refine wpAnyH_take (i := 13) (v := (.int .u8 st)) rfl (by kernel_rfl) (by kernel_rfl) (by kernel_rfl) (fun _ _ _ h => h) (Or.inl ⟨by rfl, ?_⟩) hHeld ?_
              · intro w' hSw
                try simp only [Act.put, List.getElem_toArray, List.getElem_cons_succ, List.getElem_cons_zero, List.setIfInBounds_toArray, List.set_cons_zero, List.set_cons_succ]
                (obtain ⟨q0, q1⟩ := hSw; go_simp)
              try simp only [Act.put, List.getElem_toArray, List.getElem_cons_succ, List.getElem_cons_zero, List.setIfInBounds_toArray, List.set_cons_zero, List.set_cons_succ]
              refine wpAnyH_take (i := 14) (v := (.bool (st == 4))) rfl (by kernel_rfl) (by kernel_rfl) (by kernel_rfl) (fun _ _ _ h => h) (Or.inl ⟨by rfl, ?_⟩) hHeld ?_
              · intro w' hSw
                try simp only [Act.put, List.getElem_toArray, List.getElem_cons_succ, List.getElem_cons_zero, List.setIfInBounds_toArray, List.set_cons_zero, List.set_cons_succ]
                (obtain ⟨q0, q1⟩ := hSw; go_simp)
              try simp only [Act.put, List.getElem_toArray, List.getElem_cons_succ, List.getElem_cons_zero, List.setIfInBounds_toArray, List.set_cons_zero, List.set_cons_succ]
              refine wpAnyH_take (i := 15) (v := (.bool (st == 4))) rfl (by kernel_rfl) (by kernel_rfl) (by kernel_rfl) (fun _ _ _ h => h) (Or.inl ⟨by rfl, ?_⟩) hHeld ?_
              · intro w' hSw
                try simp only [Act.put, List.getElem_toArray, List.getElem_cons_succ, List.getElem_cons_zero, List.setIfInBounds_toArray, List.set_cons_zero, List.set_cons_succ]
                (obtain ⟨q0, q1⟩ := hSw; go_simp)
              try simp only [Act.put, List.getElem_toArray, List.getElem_cons_succ, List.getElem_cons_zero, List.setIfInBounds_toArray, List.set_cons_zero, List.set_cons_succ]
              refine wpAnyH_take (i := 16) (v := (.bool false)) rfl (by kernel_rfl) (by kernel_rfl) (by kernel_rfl) (fun _ _ _ h => h) (Or.inl ⟨by rfl, ?_⟩) hHeld ?_
              · intro w' hSw
                try simp only [Act.put, List.getElem_toArray, List.getElem_cons_succ, List.getElem_cons_zero, List.setIfInBounds_toArray, List.set_cons_zero, List.set_cons_succ]
                (obtain ⟨q0, q1⟩ := hSw; go_simp)
              try simp only [Act.put, List.getElem_toArray, List.getElem_cons_succ, List.getElem_cons_zero, List.setIfInBounds_toArray, List.set_cons_zero, List.set_cons_succ]
              clear hHeld
              refine wpAnyH_done (by kernel_rfl) ?_ _
              go_wp2
              go_roundw
              case rel => exact ⟨k + 1, by go_num, by omega, by omega, HT7.out.trans T5.out (by simp)⟩
              case measure => simp [intOf]; omega
          · clear hT
            go_wp2
            go_roundw
            case rel => exact ⟨i + 1, by go_num, by omega, HT7.out⟩
            case measure => simp [intOf]; omega
      · have TL : Hid _ := T1.out.trans HTT.out (by simp)
        clear hT
        go_wp2_with fail
        refine (HLV.out _ TL.out).out.mono ?_
        rintro e w8 ⟨rfl, t8⟩
        have T8 : Hid (Touch w1 w8 []) := HTT.out.trans t8 (by simp)
        clear t8 TL HTT
        go_wp2_with fail
        refine (HRI.out _ T8.out).out.mono ?_
        rintro e w9 ⟨rfl, t9⟩
        have T9 : Hid _ := (T1.out.trans T8.out (by simp)).trans t9 (by simp)
        clear t9 T8
        go_wp2
        go_ret
        exact ⟨rfl, T9.out⟩
theorem traceboth_any {w : World} (hw : Wdt w) (hz : Tz w) {ao bo : Option Addr} {ca cb : Nat} {a b : List EvD} (ra : EvRow w (.slice ao a.length ca) a) (wa : ∀ e ∈ a, e.Wf) (ha : a.length ≤ ca ∧ ca ≤ maxLen) (rb : EvRow w (.slice bo b.length cb) b) (wb : ∀ e ∈ b, e.Wf) (hb : b.length ≤ cb ∧ cb ≤ maxLen) :
    Calls Tryd.prog 4 #[.slice ao a.length ca, .slice bo b.length cb] w fun e w' => e = .returned (.bool true) ∧ Touch w w' [] := by
  unfold maxLen at ha hb
  exact traceboth_cut hw hz (a := a.take 60) (b := b.take 60) (fun W => by rw [cut60_len]; exact trfew_any ao a.length ca ha.1 (by omega) W) (fun W => by rw [cut60_len]; exact trfew_any bo b.length cb hb.1 (by omega) W) (row60 ra) (row60 rb) (by rw [List.length_take]; omega) (by rw [List.length_take]; omega) (fun e he => wa e (List.mem_of_mem_take he)) (fun e he => wb e (List.mem_of_mem_take he))

end Go.Proofs.YtmiaibpdeofokaaDoor
