/-
  package spec, the document's: touch BY ITS CONTRACT, where it goes on.
-/
import Derived.Test.YtkpgfchglaemgaaDoorRbGet4
import Derived.Test.YtkpgfchglaemgaaDoorRbPut5
import Derived.Test.YtkpgfchglaemgaaDoorRbGet6
import Derived.Test.YtkpgfchglaemgaaDoorRbPut7
namespace Go.Proofs.YtkpgfchglaemgaaDoor
set_option linter.unusedVariables false
set_option linter.unusedSimpArgs false
open Go.RowKit

theorem fits_pop {o : Int} {n : Nat} (h : fitsW o n = true) : popV o ≤ n := by
  unfold fitsW at h
  simp only [Bool.and_eq_true, decide_eq_true_eq] at h
  exact h.1
theorem rtouch_ok {w : World} {sa oa ha : Option Addr} {sc oc hc : Nat} {D : WD} {h : List Int} (T : TIn w sa oa ha sc oc hc D h) (o a v : Int) (hop : o = 4 ∨ o = 5 ∨ o = 6 ∨ o = 7) (ha0 : 0 ≤ a) (ha1 : a ≤ 255) (h0 : (reachB ⟨D, h, [], []⟩ ⟨o, a, v⟩).1 = 0) :
    Calls Tryd.prog 24 #[.agg #[.int .u8 o, .int .i64 a, .int .u64 v], stV D (.slice sa D.st.length sc) (.slice oa D.out.length oc), .slice ha h.length hc] w (TchP w (.slice ha h.length hc) 0 (reachB ⟨D, h, [], []⟩ ⟨o, a, v⟩).2.D (reachB ⟨D, h, [], []⟩ ⟨o, a, v⟩).2.h) := by
  unfold reachB at h0 ⊢
  simp only at h0 ⊢
  cases hf : fitsW o D.st.length with
  | false => rw [if_pos hf] at h0; simp at h0
  | true =>
    rw [if_neg (by rw [hf]; simp)] at h0
    simp only [Bool.true_eq_false, if_false]
    have hpo := fits_pop hf
    obtain ⟨k, rfl⟩ : ∃ k : Nat, a = k := ⟨a.toNat, by omega⟩
    have hhl := T.hhl
    rcases hop with rfl | rfl | rfl | rfl
    · have e : varW ⟨4, (k : Int), v⟩ (D.st.drop (D.st.length - (popV 4).toNat)) h.length = if (k : Int) + 0 < h.length then some ((k : Int) + 0) else none := rfl
      rw [e] at h0 ⊢
      by_cases hk : (k : Int) + 0 < h.length
      · rw [if_pos hk]
        have r := rt_get4 T (v := v) (j := k) (by omega) (by omega) hf
        have e1 : (D.st.take (D.st.length - (popV 4).toNat)) = D.st := by show D.st.take (D.st.length - 0) = _; rw [Nat.sub_zero, List.take_length]
        show Calls _ _ _ _ (TchP w _ 0 { D with st := D.st.take (D.st.length - (popV 4).toNat) ++ [h.getD ((k : Int) + 0).toNat 0], pc := D.pc + 1 } h)
        rw [e1, show ((k : Int) + 0).toNat = k by omega]
        exact r
      · rw [if_neg hk] at h0; simp at h0
    · have e : varW ⟨5, (k : Int), v⟩ (D.st.drop (D.st.length - (popV 5).toNat)) h.length = if (k : Int) + 0 < h.length then some ((k : Int) + 0) else none := rfl
      rw [e] at h0 ⊢
      have hpo1 : (1 : Int) ≤ D.st.length := hpo
      by_cases hk : (k : Int) + 0 < h.length
      · rw [if_pos hk]
        have r := rt_put5 T (v := v) (j := k) (q := D.st.length - 1) (by omega) (by omega) (by omega) hf
        show Calls _ _ _ _ (TchP w _ 0 { D with st := D.st.take (D.st.length - (popV 5).toNat) ++ [], pc := D.pc + 1 } (h.set ((k : Int) + 0).toNat ((D.st.drop (D.st.length - (popV 5).toNat)).getD 0 0)))
        rw [List.append_nil, show ((k : Int) + 0).toNat = k by omega, show (popV 5).toNat = 1 from rfl, show (D.st.drop (D.st.length - 1)).getD 0 0 = D.st.getD (D.st.length - 1) 0 by simp [List.getD_eq_getElem?_getD]]
        exact r
      · rw [if_neg hk] at h0; simp at h0
    · have hpo1 : (1 : Int) ≤ D.st.length := hpo
      have ed : (D.st.drop (D.st.length - 1)).getD ((D.st.drop (D.st.length - 1)).length - 1) 0 = D.st.getD (D.st.length - 1) 0 := by
        rw [List.length_drop, show D.st.length - (D.st.length - 1) - 1 = 0 by omega]; simp [List.getD_eq_getElem?_getD]
      have e : varW ⟨6, (k : Int), v⟩ (D.st.drop (D.st.length - (popV 6).toNat)) h.length = rIdx k (D.st.getD (D.st.length - 1) 0) h.length := by
        rw [show (popV 6).toNat = 1 from rfl]
        unfold varW idxW rIdx
        simp only [true_or, if_true]
        rw [ed]
        by_cases hq : (wholeV (ofB (D.st.getD (D.st.length - 1) 0).toNat)).2 = true ∧ 0 ≤ (wholeV (ofB (D.st.getD (D.st.length - 1) 0).toNat)).1
        · rw [if_pos hq, if_pos hq]
        · rw [if_neg hq, if_neg hq]
      rw [e] at h0 ⊢
      cases hx : rIdx k (D.st.getD (D.st.length - 1) 0) h.length with
      | none => rw [hx] at h0; simp at h0
      | some t =>
        have ht : 0 ≤ t ∧ t < h.length := by
          unfold rIdx at hx
          split at hx
          · rename_i hq
            split at hx
            · simp only [Option.some.injEq] at hx; omega
            · cases hx
          · cases hx
        obtain ⟨j, rfl⟩ : ∃ j : Nat, t = j := ⟨t.toNat, by omega⟩
        have r := rt_get6 T (v := v) (a := k) (by omega) (j := j) (q := D.st.length - 1) (by omega) (by omega) hx hf
        show Calls _ _ _ _ (TchP w _ 0 { D with st := D.st.take (D.st.length - (popV 6).toNat) ++ [h.getD ((j : Int)).toNat 0], pc := D.pc + 1 } h)
        rw [Int.toNat_natCast, show (popV 6).toNat = 1 from rfl]
        exact r
    · have hpo1 : (2 : Int) ≤ D.st.length := hpo
      have ed : (D.st.drop (D.st.length - 2)).getD ((D.st.drop (D.st.length - 2)).length - 1) 0 = D.st.getD (D.st.length - 2 + 1) 0 := by
        rw [List.length_drop, show D.st.length - (D.st.length - 2) - 1 = 1 by omega]; simp [List.getD_eq_getElem?_getD]
      have e : varW ⟨7, (k : Int), v⟩ (D.st.drop (D.st.length - (popV 7).toNat)) h.length = rIdx k (D.st.getD (D.st.length - 2 + 1) 0) h.length := by
        rw [show (popV 7).toNat = 2 from rfl]
        unfold varW idxW rIdx
        simp only [or_true, if_true]
        rw [ed]
        by_cases hq : (wholeV (ofB (D.st.getD (D.st.length - 2 + 1) 0).toNat)).2 = true ∧ 0 ≤ (wholeV (ofB (D.st.getD (D.st.length - 2 + 1) 0).toNat)).1
        · rw [if_pos hq, if_pos hq]
        · rw [if_neg hq, if_neg hq]
      rw [e] at h0 ⊢
      cases hx : rIdx k (D.st.getD (D.st.length - 2 + 1) 0) h.length with
      | none => rw [hx] at h0; simp at h0
      | some t =>
        have ht : 0 ≤ t ∧ t < h.length := by
          unfold rIdx at hx
          split at hx
          · rename_i hq
            split at hx
            · simp only [Option.some.injEq] at hx; omega
            · cases hx
          · cases hx
        obtain ⟨j, rfl⟩ : ∃ j : Nat, t = j := ⟨t.toNat, by omega⟩
        have r := rt_put7 T (v := v) (a := k) (by omega) (j := j) (q := D.st.length - 2) (by omega) (by omega) hx hf
        show Calls _ _ _ _ (TchP w _ 0 { D with st := D.st.take (D.st.length - (popV 7).toNat) ++ [], pc := D.pc + 1 } (h.set ((j : Int)).toNat ((D.st.drop (D.st.length - (popV 7).toNat)).getD 0 0)))
        rw [List.append_nil, Int.toNat_natCast, show (popV 7).toNat = 2 from rfl, show (D.st.drop (D.st.length - 2)).getD 0 0 = D.st.getD (D.st.length - 2) 0 by simp [List.getD_eq_getElem?_getD]]
        exact r

end Go.Proofs.YtkpgfchglaemgaaDoor
