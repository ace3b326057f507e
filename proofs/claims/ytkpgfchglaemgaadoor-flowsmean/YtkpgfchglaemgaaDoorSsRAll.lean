/-
  package spec, the document's: Step BY ITS CONTRACT, whole.
-/
import Derived.Test.YtkpgfchglaemgaaDoorSsR1
import Derived.Test.YtkpgfchglaemgaaDoorSsR2
import Derived.Test.YtkpgfchglaemgaaDoorSsR3
import Derived.Test.YtkpgfchglaemgaaDoorSsR4
import Derived.Test.YtkpgfchglaemgaaDoorSsR5
import Derived.Test.YtkpgfchglaemgaaDoorSsR6
import Derived.Test.YtkpgfchglaemgaaDoorSsR7
import Derived.Test.YtkpgfchglaemgaaDoorSsR8
import Derived.Test.YtkpgfchglaemgaaDoorSsR9
import Derived.Test.YtkpgfchglaemgaaDoorSsRb
namespace Go.Proofs.YtkpgfchglaemgaaDoor
set_option linter.unusedVariables false
set_option linter.unusedSimpArgs false
open Go.RowKit
attribute [local go_sem] Oper.semAt_some


theorem top_one {l : List Int} (h : 1 ≤ l.length) : (l.drop (l.length - 1)).getD 0 0 = l.getD (l.length - 1) 0 := by simp [List.getD_eq_getElem?_getD]
theorem take_top {l : List Int} (h : 1 ≤ l.length) : l.take (l.length - 1) ++ [l.getD (l.length - 1) 0] = l := by
  have h1 : l.length - 1 < l.length := by omega
  rw [List.getD_eq_getElem?_getD, List.getElem?_eq_getElem h1, Option.getD_some, ← List.take_succ_eq_append_getElem h1, Nat.sub_add_cancel h, List.take_length]
theorem rstep_any {w : World} {sa oa ap : Option Addr} {sc oc cp : Nat} {l : List InsD} {D : WD} (h : StIn w sa oa ap sc oc cp l D) :
    Calls Tryd.prog 25 #[.slice ap l.length cp, stV D (.slice sa D.st.length sc) (.slice oa D.out.length oc)] w (StpP w (stepW l D)) := by
  by_cases hp0 : D.pc < 0
  · have e : stepW l D = (3, D) := by unfold stepW; rw [if_pos]; unfold placeP; rw [decide_eq_false (by omega)]; rfl
    rw [e]; exact rs_low h hp0
  by_cases hp1 : (l.length : Int) ≤ D.pc
  · have e : stepW l D = (3, D) := by unfold stepW; rw [if_pos]; unfold placeP; rw [decide_eq_false (show ¬ D.pc < (l.length : Int) by omega), Bool.and_false]
    rw [e]; exact rs_high h (by omega) hp1
  have hpl : ¬ placeP D.pc l.length = false := by unfold placeP; rw [decide_eq_true (by omega), decide_eq_true (by omega)]; decide
  have hk : ∃ k : Nat, D.pc = k := ⟨D.pc.toNat, by omega⟩
  unfold stepW
  rw [if_neg hpl]
  by_cases hri : rightI (l.getD D.pc.toNat ⟨0, 0, 0⟩) = false
  · rw [if_pos hri]; exact rs_wrong h hk (by omega) hri
  rw [if_neg hri]
  simp only [Bool.not_eq_false] at hri
  by_cases hpo : plainO (l.getD D.pc.toNat ⟨0, 0, 0⟩).op = false
  · rw [if_pos hpo]; exact rs_notplain h hk (by omega) hri hpo
  rw [if_neg hpo]
  simp only [Bool.not_eq_false] at hpo
  by_cases hft : fitsW (l.getD D.pc.toNat ⟨0, 0, 0⟩).op D.st.length = false
  · rw [if_pos hft]; exact rs_nofit h hk (by omega) hri hpo hft
  rw [if_neg hft]
  simp only [Bool.not_eq_false] at hft
  obtain ⟨k, hk⟩ := hk
  have hkl : k < l.length := by omega
  have hgk : l.getD D.pc.toNat ⟨0, 0, 0⟩ = l[k] := by rw [hk, Int.toNat_natCast]; simp [List.getD_eq_getElem?_getD, List.getElem?_eq_getElem hkl]
  rw [hgk] at hri hpo hft ⊢
  clear hgk
  obtain ⟨⟨o, a, v⟩, hi⟩ : ∃ i, l[k] = i := ⟨_, rfl⟩
  rw [hi] at hri hpo hft ⊢
  simp only at hpo hft ⊢
  have hiw : InsD.Wf ⟨o, a, v⟩ := hi ▸ h.hwf _ (List.getElem_mem hkl)
  have h0 := hiw.op.1
  simp only at h0
  have h28 : o ≤ 28 := by
    have h1 := hri
    unfold rightI at h1
    simp only [Bool.and_eq_true, decide_eq_true_eq] at h1
    omega
  have hop : o = 0 ∨ o = 1 ∨ o = 2 ∨ o = 3 ∨ o = 8 ∨ o = 9 ∨ o = 10 ∨ o = 11 ∨ o = 12 ∨ o = 13 ∨ o = 14 ∨ o = 15 ∨ o = 16 ∨ o = 17 ∨ o = 18 ∨ o = 19 ∨ o = 20 ∨ o = 27 := by
    have h1 := hpo
    unfold plainO at h1
    simp only [Bool.not_eq_true', decide_eq_false_iff_not] at h1
    omega
  have hpu : popV o ≤ D.st.length := by
    have h1 := hft
    unfold fitsW at h1
    simp only [Bool.and_eq_true, decide_eq_true_eq] at h1
    exact h1.1
  obtain ⟨q1, hq1⟩ : ∃ q, q = D.st.length - 1 := ⟨_, rfl⟩
  obtain ⟨q2, hq2⟩ : ∃ q, q = D.st.length - 2 := ⟨_, rfl⟩
  have tk0 : D.st.take (D.st.length - 0) = D.st := by rw [Nat.sub_zero]; exact List.take_length
  rcases hop with rfl | rfl | rfl | rfl | rfl | rfl | rfl | rfl | rfl | rfl | rfl | rfl | rfl | rfl | rfl | rfl | rfl | rfl
  · have e : doW l.length D ⟨0, a, v⟩ = (0, { D with pc := D.pc + 1 }) := by
      show ((0 : Int), { D with st := D.st.take (D.st.length - 0) ++ [], pc := D.pc + 1 }) = _
      rw [tk0, List.append_nil]
    rw [e]; exact rs_nop h hkl hk hi hri hft
  · have e : doW l.length D ⟨1, a, v⟩ = (0, { D with st := D.st ++ [v], pc := D.pc + 1 }) := by
      show ((0 : Int), { D with st := D.st.take (D.st.length - 0) ++ [v], pc := D.pc + 1 }) = _
      rw [tk0]
    rw [e]; exact rs_push h hkl hk hi hri hft
  · have e : doW l.length D ⟨2, a, v⟩ = (0, { D with st := D.st ++ [D.loc a], pc := D.pc + 1 }) := by
      show ((0 : Int), { D with st := D.st.take (D.st.length - 0) ++ [D.loc a], pc := D.pc + 1 }) = _
      rw [tk0]
    rw [e]
    have ha := right_loc hri (.inl rfl)
    simp only at ha
    obtain ⟨j, rfl⟩ : ∃ j : Nat, a = j := ⟨a.toNat, by omega⟩
    exact rs_local h hkl hk (by omega) hi hri hft rfl
  · have ha := right_loc hri (.inr rfl)
    simp only at ha
    have e : doW l.length D ⟨3, a, v⟩ = (0, { WD.setL { D with pc := D.pc + 1 } a (D.st.getD q1 0) with st := D.st.take q1 }) := by
      show ((0 : Int), { D.setL a (D.st.getD (D.st.length - 1) 0) with st := D.st.take (D.st.length - 1) ++ [], pc := D.pc + 1 }) = _
      rw [List.append_nil, hq1]
      unfold WD.setL
      rcases (show a = 0 ∨ a = 1 ∨ a = 2 ∨ a = 3 by omega) with rfl | rfl | rfl | rfl <;> rfl
    rw [e]
    obtain ⟨j, rfl⟩ : ∃ j : Nat, a = j := ⟨a.toNat, by omega⟩
    exact rs_setl h hkl hk (by omega) hi hri hft hq1 rfl rfl
  · have e : doW l.length D ⟨8, a, v⟩ = (0, { D with st := D.st.take q2 ++ [rkV 8 (D.st.getD q2 0) (D.st.getD (q2 + (2 - 1)) 0)], pc := D.pc + 1 }) := by
      show ((0 : Int), { D with st := D.st.take (D.st.length - 2) ++ [reckV 8 ((D.st.drop (D.st.length - 2)).getD 0 0) ((D.st.drop (D.st.length - 2)).getD 1 0)], pc := D.pc + 1 }) = _
      rw [hq2]
      simp [rkV, List.getD_eq_getElem?_getD]
    rw [e]; exact rs_reckG2 (by decide) h hkl hk hi hri hft hq2 rfl
  · have e : doW l.length D ⟨9, a, v⟩ = (0, { D with st := D.st.take q2 ++ [rkV 9 (D.st.getD q2 0) (D.st.getD (q2 + (2 - 1)) 0)], pc := D.pc + 1 }) := by
      show ((0 : Int), { D with st := D.st.take (D.st.length - 2) ++ [reckV 9 ((D.st.drop (D.st.length - 2)).getD 0 0) ((D.st.drop (D.st.length - 2)).getD 1 0)], pc := D.pc + 1 }) = _
      rw [hq2]
      simp [rkV, List.getD_eq_getElem?_getD]
    rw [e]; exact rs_reckG2 (by decide) h hkl hk hi hri hft hq2 rfl
  · have e : doW l.length D ⟨10, a, v⟩ = (0, { D with st := D.st.take q2 ++ [rkV 10 (D.st.getD q2 0) (D.st.getD (q2 + (2 - 1)) 0)], pc := D.pc + 1 }) := by
      show ((0 : Int), { D with st := D.st.take (D.st.length - 2) ++ [reckV 10 ((D.st.drop (D.st.length - 2)).getD 0 0) ((D.st.drop (D.st.length - 2)).getD 1 0)], pc := D.pc + 1 }) = _
      rw [hq2]
      simp [rkV, List.getD_eq_getElem?_getD]
    rw [e]; exact rs_reckG2 (by decide) h hkl hk hi hri hft hq2 rfl
  · have e : doW l.length D ⟨11, a, v⟩ = (0, { D with st := D.st.take q2 ++ [rkV 11 (D.st.getD q2 0) (D.st.getD (q2 + (2 - 1)) 0)], pc := D.pc + 1 }) := by
      show ((0 : Int), { D with st := D.st.take (D.st.length - 2) ++ [reckV 11 ((D.st.drop (D.st.length - 2)).getD 0 0) ((D.st.drop (D.st.length - 2)).getD 1 0)], pc := D.pc + 1 }) = _
      rw [hq2]
      simp [rkV, List.getD_eq_getElem?_getD]
    rw [e]; exact rs_reckG2 (by decide) h hkl hk hi hri hft hq2 rfl
  · have e : doW l.length D ⟨12, a, v⟩ = (0, { D with st := D.st.take q1 ++ [rkV 12 (D.st.getD q1 0) (D.st.getD (q1 + (1 - 1)) 0)], pc := D.pc + 1 }) := by
      show ((0 : Int), { D with st := D.st.take (D.st.length - 1) ++ [(negV (ofB ((D.st.drop (D.st.length - 1)).getD 0 0).toNat) : Int)], pc := D.pc + 1 }) = _
      rw [hq1]
      simp [rkV, List.getD_eq_getElem?_getD]
    rw [e]; exact rs_reckG1 (by decide) h hkl hk hi hri hft hq1 rfl
  · have e : doW l.length D ⟨13, a, v⟩ = (0, { D with st := D.st.take q2 ++ [rkV 13 (D.st.getD q2 0) (D.st.getD (q2 + (2 - 1)) 0)], pc := D.pc + 1 }) := by
      show ((0 : Int), { D with st := D.st.take (D.st.length - 2) ++ [reckV 13 ((D.st.drop (D.st.length - 2)).getD 0 0) ((D.st.drop (D.st.length - 2)).getD 1 0)], pc := D.pc + 1 }) = _
      rw [hq2]
      simp [rkV, List.getD_eq_getElem?_getD]
    rw [e]; exact rs_reckG2 (by decide) h hkl hk hi hri hft hq2 rfl
  · have e : doW l.length D ⟨14, a, v⟩ = (0, { D with st := D.st.take q2 ++ [rkV 14 (D.st.getD q2 0) (D.st.getD (q2 + (2 - 1)) 0)], pc := D.pc + 1 }) := by
      show ((0 : Int), { D with st := D.st.take (D.st.length - 2) ++ [reckV 14 ((D.st.drop (D.st.length - 2)).getD 0 0) ((D.st.drop (D.st.length - 2)).getD 1 0)], pc := D.pc + 1 }) = _
      rw [hq2]
      simp [rkV, List.getD_eq_getElem?_getD]
    rw [e]; exact rs_reckG2 (by decide) h hkl hk hi hri hft hq2 rfl
  · have e : doW l.length D ⟨15, a, v⟩ = (0, { D with st := D.st.take q1 ++ [rkV 15 (D.st.getD q1 0) (D.st.getD (q1 + (1 - 1)) 0)], pc := D.pc + 1 }) := by
      show ((0 : Int), { D with st := D.st.take (D.st.length - 1) ++ [oneV (!truthB (classB (ofB ((D.st.drop (D.st.length - 1)).getD 0 0).toNat)))], pc := D.pc + 1 }) = _
      rw [hq1]
      simp [rkV, List.getD_eq_getElem?_getD]
    rw [e]; exact rs_reckG1 (by decide) h hkl hk hi hri hft hq1 rfl
  · have hl : 1 ≤ D.st.length := by have : (1 : Int) ≤ D.st.length := hpu; omega
    have e : doW l.length D ⟨16, a, v⟩ = (0, { D with st := D.st ++ [D.st.getD q1 0], pc := D.pc + 1 }) := by
      show ((0 : Int), { D with st := D.st.take (D.st.length - 1) ++ [(D.st.drop (D.st.length - 1)).getD 0 0, (D.st.drop (D.st.length - 1)).getD 0 0], pc := D.pc + 1 }) = _
      rw [top_one hl, hq1, ← take_top hl]
      simp
    rw [e]; exact rs_dup h hkl hk hi hri hft hq1 rfl
  · have e : doW l.length D ⟨17, a, v⟩ = (0, { D with st := D.st.take q1, pc := D.pc + 1 }) := by
      show ((0 : Int), { D with st := D.st.take (D.st.length - 1) ++ [], pc := D.pc + 1 }) = _
      rw [List.append_nil, hq1]
    rw [e]; exact rs_pop h hkl hk hi hri hft hq1
  · have hl : 2 ≤ D.st.length := by have : (2 : Int) ≤ D.st.length := hpu; omega
    have e : doW l.length D ⟨18, a, v⟩ = (0, { D with st := D.st.take q2 ++ [D.st.getD (q2 + 1) 0, D.st.getD q2 0], pc := D.pc + 1 }) := by
      show ((0 : Int), { D with st := D.st.take (D.st.length - 2) ++ [(D.st.drop (D.st.length - 2)).getD 1 0, (D.st.drop (D.st.length - 2)).getD 0 0], pc := D.pc + 1 }) = _
      rw [hq2]
      simp [List.getD_eq_getElem?_getD]
    rw [e]; exact rs_swap h hkl hk hi hri hft hq2 rfl rfl
  · by_cases hin : a ≤ l.length
    · have e : doW l.length D ⟨19, a, v⟩ = (0, { D with pc := a }) := by
        show (if a ≤ (l.length : Int) then ((0 : Int), { D with st := D.st.take (D.st.length - 0) ++ [], pc := a }) else (2, D)) = _
        rw [if_pos hin, tk0, List.append_nil]
      rw [e]; exact rs_jump h hkl hk hi hri hft hin
    · have e : doW l.length D ⟨19, a, v⟩ = (2, D) := by
        show (if a ≤ (l.length : Int) then ((0 : Int), { D with st := D.st.take (D.st.length - 0) ++ [], pc := a }) else (2, D)) = _
        rw [if_neg hin]
      rw [e]; exact rs_jno h hkl hk hi hri hft hin
  · have e : doW l.length D ⟨20, a, v⟩ = if truthB (classB (ofB (D.st.getD q1 0).toNat)) = true then (0, { D with st := D.st.take q1, pc := D.pc + 1 }) else if a ≤ l.length then (0, { D with st := D.st.take q1, pc := a }) else (2, D) := by
      show (if truthB (classB (ofB (D.st.getD (D.st.length - 1) 0).toNat)) = true then ((0 : Int), { D with st := D.st.take (D.st.length - 1) ++ [], pc := D.pc + 1 }) else if a ≤ (l.length : Int) then (0, { D with st := D.st.take (D.st.length - 1) ++ [], pc := a }) else (2, D)) = _
      rw [List.append_nil, hq1]
    rw [e]
    by_cases hz : truthB (classB (ofB (D.st.getD q1 0).toNat)) = true
    · rw [if_pos hz]; exact rs_ifz1 h hkl hk hi hri hft hq1 rfl hz
    · rw [if_neg hz]
      simp only [Bool.not_eq_true] at hz
      by_cases hin : a ≤ l.length
      · rw [if_pos hin]; exact rs_ifz2 h hkl hk hi hri hft hq1 rfl hz hin
      · rw [if_neg hin]; exact rs_ifz3 h hkl hk hi hri hft hq1 rfl hz hin
  · by_cases hoo : D.out.length < 24
    · have e : doW l.length D ⟨27, a, v⟩ = (0, { D with st := D.st.take q1, out := D.out ++ [D.st.getD q1 0], pc := D.pc + 1 }) := by
        show (if D.out.length < 24 then ((0 : Int), { D with out := D.out ++ [D.st.getD (D.st.length - 1) 0], st := D.st.take (D.st.length - 1) ++ [], pc := D.pc + 1 }) else (4, D)) = _
        rw [if_pos hoo, List.append_nil, hq1]
      rw [e]; exact rs_out h hkl hk hi hri hft hq1 rfl hoo
    · have e : doW l.length D ⟨27, a, v⟩ = (4, D) := by
        show (if D.out.length < 24 then ((0 : Int), { D with out := D.out ++ [D.st.getD (D.st.length - 1) 0], st := D.st.take (D.st.length - 1) ++ [], pc := D.pc + 1 }) else (4, D)) = _
        rw [if_neg hoo]
      rw [e]; exact rs_outf h hkl hk hi hri hft hq1 hoo

end Go.Proofs.YtkpgfchglaemgaaDoor
