/-
  package spec: WHAT A BLOCK HOLDS STAYS SMALL AND RIGHT. No walk.
-/
import Derived.Test.YtlndbligbpfdpaaSpDo
namespace Go.Proofs.Ytlndbligbpfdpaa
set_option linter.unusedVariables false
set_option linter.unusedSimpArgs false
open Go.RowKit

theorem wf_zero : Wf64 0 := by unfold Wf64; decide
theorem wf_getD {l : List Int} (h : ∀ x ∈ l, Wf64 x) (k : Nat) : Wf64 (l.getD k 0) := by
  rw [List.getD_eq_getElem?_getD]
  by_cases hk : k < l.length
  · rw [List.getElem?_eq_getElem hk]; exact h _ (List.getElem_mem hk)
  · rw [List.getElem?_eq_none (by omega)]; exact wf_zero
theorem arith_wf (op : BinOp) (x y : Nat) : Wf64 (arithB op x y : Nat) := by
  unfold arithB
  split
  · rename_i r h
    have h1 := floatBits_wf h
    have h2 : r < 18446744073709551616 := by simpa [Lit.wf] using h1
    have := ofB_lt r h2
    unfold Wf64; omega
  · unfold Wf64; omega
theorem oneV_wf (b : Bool) : Wf64 (oneV b) := by cases b <;> (unfold oneV Wf64; decide)
theorem neg_wf {n : Int} (h : Wf64 n) : Wf64 (negV (ofB n.toNat)) := by
  have hr := h.rt
  have hl : Op.negFloat .f64 (ofB n.toNat) < 18446744073709551616 := by rw [negFloat_is _ hr.lt]; have := hr.lt; split <;> omega
  rw [← negV_is hr]
  have := ofB_lt _ hl
  unfold Wf64; omega
theorem reck_wf (o a b : Int) : Wf64 (reckV o a b) := by
  unfold reckV
  repeat' split
  all_goals first | exact arith_wf _ _ _ | exact oneV_wf _

structure SWf (D : WD) (h : List Int) : Prop where
  st : D.st.length ≤ 1000
  out : D.out.length ≤ 1000
  hl : h.length ≤ 1000
  ws : ∀ x ∈ D.st, Wf64 x
  wh : ∀ x ∈ h, Wf64 x
  w0 : Wf64 D.l0
  w1 : Wf64 D.l1
  w2 : Wf64 D.l2
  w3 : Wf64 D.l3
structure BW (X : BX) (k : Nat) : Prop where
  s : SWf X.D X.h
  m : ∀ m ∈ X.ms, SWf m.D m.h ∧ 0 ≤ m.e ∧ m.e ≤ 1000
  ms : X.ms.length ≤ k
  arms : X.arms.length ≤ k
theorem BW.wf {X : BX} {k : Nat} (h : BW X k) (hk : k ≤ 1000) : BWf X := ⟨h.s.st, h.s.out, h.s.hl, by have := h.ms; omega, by have := h.arms; omega, fun m hm => (h.m m hm).2, h.s.ws⟩

theorem push_wf {D : WD} {h : List Int} (k : SWf D h) {i : InsD} (hi : i.Wf) {pp : List Int} (hp : ∀ x ∈ pp, Wf64 x) : ∀ x ∈ pushW D i pp, Wf64 x := by
  intro x hx
  unfold pushW at hx
  split at hx
  · rw [List.mem_singleton.1 hx]; exact hi.val
  split at hx
  · rw [List.mem_singleton.1 hx]
    unfold WD.loc
    split
    · exact k.w0
    · split
      · exact k.w1
      · split
        · exact k.w2
        · exact k.w3
  split at hx
  · simp only [List.mem_cons, List.not_mem_nil, or_false] at hx
    rcases hx with rfl | rfl <;> exact wf_getD hp _
  split at hx
  · simp only [List.mem_cons, List.not_mem_nil, or_false] at hx
    rcases hx with rfl | rfl <;> exact wf_getD hp _
  split at hx
  · rw [List.mem_singleton.1 hx]; exact neg_wf (wf_getD hp _)
  split at hx
  · rw [List.mem_singleton.1 hx]; exact oneV_wf _
  split at hx
  · rw [List.mem_singleton.1 hx]; exact reck_wf _ _ _
  · cases hx
theorem push_len (D : WD) (i : InsD) (pp : List Int) : (pushW D i pp).length ≤ 2 := by
  unfold pushW
  repeat' split
  all_goals simp
theorem take_app_wf {l m : List Int} {n : Nat} (h1 : ∀ x ∈ l, Wf64 x) (h2 : ∀ x ∈ m, Wf64 x) : ∀ x ∈ l.take n ++ m, Wf64 x := by
  intro x hx
  rcases List.mem_append.1 hx with q | q
  · exact h1 x (List.mem_of_mem_take q)
  · exact h2 x q

/-- A State whose stack is another one. -/
theorem SWf.stack {D : WD} {h : List Int} (k : SWf D h) {st : List Int} {pc : Int} (h1 : st.length ≤ 1000) (h2 : ∀ x ∈ st, Wf64 x) : SWf { D with st := st, pc := pc } h := ⟨h1, k.out, k.hl, h2, k.wh, k.w0, k.w1, k.w2, k.w3⟩
theorem SWf.pc {D : WD} {h : List Int} (k : SWf D h) (pc : Int) : SWf { D with pc := pc } h := ⟨k.st, k.out, k.hl, k.ws, k.wh, k.w0, k.w1, k.w2, k.w3⟩
theorem SWf.fuel {D : WD} {h : List Int} (k : SWf D h) (pc : Int) : SWf { D with fuel := pc } h := ⟨k.st, k.out, k.hl, k.ws, k.wh, k.w0, k.w1, k.w2, k.w3⟩
theorem SWf.setL {D : WD} {h : List Int} (k : SWf D h) (j x : Int) (hx : Wf64 x) : SWf (D.setL j x) h := by
  unfold WD.setL
  split
  · exact ⟨k.st, k.out, k.hl, k.ws, k.wh, hx, k.w1, k.w2, k.w3⟩
  · split
    · exact ⟨k.st, k.out, k.hl, k.ws, k.wh, k.w0, hx, k.w2, k.w3⟩
    · split
      · exact ⟨k.st, k.out, k.hl, k.ws, k.wh, k.w0, k.w1, hx, k.w3⟩
      · exact ⟨k.st, k.out, k.hl, k.ws, k.wh, k.w0, k.w1, k.w2, hx⟩
theorem take_len {l m : List Int} {n a : Nat} (h1 : l.length ≤ 1000) (h2 : n + m.length ≤ 1000) : (l.take n ++ m).length ≤ 1000 := by
  rw [List.length_append, List.length_take]; omega
theorem fits_le {o : Int} {n : Nat} (h : fitsW o n = true) : n - (popV o).toNat + (pushV o).toNat ≤ 12 := by
  unfold fitsW at h
  simp only [Bool.and_eq_true, decide_eq_true_eq] at h
  have := pop_le o
  have := push_le o
  omega

/-- A step keeps a State right. -/
theorem step_keep {l : List InsD} {D : WD} {h : List Int} (k : SWf D h) (hl : ∀ i ∈ l, i.Wf) (h0 : (stepW l D).1 = 0) : SWf (stepW l D).2 h := by
  unfold stepW at h0 ⊢
  split
  · rename_i q; rw [if_pos q] at h0; simp at h0
  rename_i q1
  rw [if_neg q1] at h0
  split
  · rename_i q; rw [if_pos q] at h0; simp at h0
  rename_i q2
  rw [if_neg q2] at h0
  split
  · rename_i q; rw [if_pos q] at h0; simp at h0
  rename_i q3
  rw [if_neg q3] at h0
  split
  · rename_i q; rw [if_pos q] at h0; simp at h0
  rename_i q4
  rw [if_neg q4] at h0
  have hi : (l.getD D.pc.toNat ⟨0, 0, 0⟩).Wf := by
    rw [List.getD_eq_getElem?_getD]
    by_cases hk : D.pc.toNat < l.length
    · rw [List.getElem?_eq_getElem hk]; exact hl _ (List.getElem_mem hk)
    · rw [List.getElem?_eq_none (by omega)]; exact ⟨⟨by decide, by decide⟩, ⟨by decide, by decide⟩, wf_zero⟩
  generalize l.getD D.pc.toNat ⟨0, 0, 0⟩ = i at *
  have hf : fitsW i.op D.st.length = true := by simpa using q4
  have hfl := fits_le hf
  have hst := k.st
  unfold doW at h0 ⊢
  have nilwf : ∀ x ∈ ([] : List Int), Wf64 x := fun x hx => by cases hx
  split
  · rename_i q; rw [if_pos q] at h0
    split
    · rename_i q5
      have hs := k.stack (pc := D.pc + 1) (st := D.st.take (D.st.length - 1) ++ []) (take_len (a := 0) hst (by simp; omega)) (take_app_wf k.ws nilwf)
      exact ⟨hs.st, by show (D.out ++ [_]).length ≤ 1000; rw [List.length_append]; simp; omega, hs.hl, hs.ws, hs.wh, hs.w0, hs.w1, hs.w2, hs.w3⟩
    · rename_i q5; rw [if_neg q5] at h0; simp at h0
  rename_i q; rw [if_neg q] at h0; clear q
  split
  · exact (k.setL i.arg _ (wf_getD k.ws _)).stack (take_len (a := 0) hst (by simp; omega)) (take_app_wf k.ws nilwf)
  rename_i q; rw [if_neg q] at h0; clear q
  split
  · rename_i q; rw [if_pos q] at h0
    split
    · exact k.stack (take_len (a := 0) hst (by simp; omega)) (take_app_wf k.ws nilwf)
    · rename_i q5; rw [if_neg q5] at h0; simp at h0
  rename_i q; rw [if_neg q] at h0; clear q
  split
  · rename_i q; rw [if_pos q] at h0
    split
    · exact k.stack (take_len (a := 0) hst (by simp; omega)) (take_app_wf k.ws nilwf)
    · rename_i q5; rw [if_neg q5] at h0
      split
      · exact k.stack (take_len (a := 0) hst (by simp; omega)) (take_app_wf k.ws nilwf)
      · rename_i q6; rw [if_neg q6] at h0; simp at h0
  exact k.stack (take_len (a := 0) hst (by have := push_len D i (D.st.drop (D.st.length - (popV i.op).toNat)); omega)) (take_app_wf k.ws (push_wf k hi (fun x hx => k.ws x (List.mem_of_mem_drop hx))))

theorem reach_keep {X : BX} {k : Nat} (h : BW X k) {i : InsD} (h0 : (reachB X i).1 = 0) : BW (reachB X i).2 (k + 1) := by
  unfold reachB at h0 ⊢
  have nilwf : ∀ x ∈ ([] : List Int), Wf64 x := fun x hx => by cases hx
  have hst := h.s.st
  split
  · rename_i q; rw [if_pos q] at h0; simp at h0
  rename_i q
  rw [if_neg q] at h0
  have hf : fitsW i.op X.D.st.length = true := by simpa using q
  have hfl := fits_le hf
  split
  · rename_i q5; rw [q5] at h0; simp at h0
  rename_i t q5
  split
  · exact ⟨h.s.stack (take_len (a := 0) hst (by simp; omega)) (take_app_wf h.s.ws (fun x hx => by rw [List.mem_singleton.1 hx]; exact wf_getD h.s.wh _)), h.m, by have := h.ms; show X.ms.length ≤ _; omega, by have := h.arms; show X.arms.length ≤ _; omega⟩
  · have hs := h.s.stack (pc := X.D.pc + 1) (st := X.D.st.take (X.D.st.length - (popV i.op).toNat) ++ []) (take_len (a := 0) hst (by simp; omega)) (take_app_wf h.s.ws nilwf)
    refine ⟨⟨hs.st, hs.out, by rw [List.length_set]; exact hs.hl, hs.ws, fun x hx => ?_, hs.w0, hs.w1, hs.w2, hs.w3⟩, h.m, by have := h.ms; show X.ms.length ≤ _; omega, by have := h.arms; show X.arms.length ≤ _; omega⟩
    rcases List.mem_or_eq_of_mem_set hx with q | q
    · exact h.s.wh x q
    · rw [q]; exact wf_getD (fun y hy => h.s.ws y (List.mem_of_mem_drop hy)) _

theorem br_keep {X : BX} {k : Nat} (h : BW X k) {i : InsD} (ha : 0 ≤ i.arg ∧ i.arg ≤ 1000) (h0 : (brB X i).1 = 0) : BW (brB X i).2 (k + 1) := by
  have hms := h.ms
  have har := h.arms
  unfold brB at h0 ⊢
  split
  · refine ⟨h.s.pc _, fun m hm => ?_, by show (X.ms ++ [_]).length ≤ _; rw [List.length_append]; simp; omega, by show X.arms.length ≤ _; omega⟩
    rcases List.mem_append.1 hm with q | q
    · exact h.m m q
    · rw [List.mem_singleton.1 q]; exact ⟨h.s, ha⟩
  rename_i q; rw [if_neg q] at h0; clear q
  split
  · rename_i q; rw [if_pos q] at h0
    split
    · rename_i q5; rw [q5] at h0; simp at h0
    · exact ⟨h.s.pc _, fun m hm => h.m m ((List.dropLast_sublist X.ms).subset hm), by show X.ms.dropLast.length ≤ _; rw [List.length_dropLast]; omega, by show (X.arms ++ [_]).length ≤ _; rw [List.length_append]; simp; omega⟩
  rename_i q; rw [if_neg q] at h0; clear q
  split
  · exact ⟨h.s.pc _, h.m, by show X.ms.length ≤ _; omega, by show (X.arms ++ [_]).length ≤ _; rw [List.length_append]; simp; omega⟩
  rename_i q; rw [if_neg q] at h0; clear q
  split
  · rename_i q; rw [if_pos q] at h0
    split
    · rename_i q5; rw [q5] at h0; simp at h0
    · rename_i m q5
      have hm := h.m m (List.mem_of_getLast? q5)
      exact ⟨⟨hm.1.st, hm.1.out, hm.1.hl, hm.1.ws, hm.1.wh, hm.1.w0, hm.1.w1, hm.1.w2, hm.1.w3⟩, fun m hm => h.m m ((List.dropLast_sublist X.ms).subset hm), by show X.ms.dropLast.length ≤ _; rw [List.length_dropLast]; omega, by show X.arms.length ≤ _; omega⟩
  · exact ⟨h.s.pc _, h.m, by show X.ms.length ≤ _; omega, by show X.arms.length ≤ _; omega⟩

theorem do_keep {l : List InsD} {X : BX} {k : Nat} (h : BW X k) (hl : ∀ i ∈ l, i.Wf) {i : InsD} (ha : i.op ≠ 1 → 0 ≤ i.arg ∧ i.arg ≤ 1000) (h0 : (doB l X i).1 = 0) : BW (doB l X i).2 (k + 1) := by
  have hms := h.ms
  have har := h.arms
  unfold doB at h0 ⊢
  split
  · rename_i q; rw [if_pos q] at h0; simp at h0
  rename_i q; rw [if_neg q] at h0; clear q
  split
  · rename_i q; rw [if_pos q] at h0; exact reach_keep h h0
  rename_i q; rw [if_neg q] at h0; clear q
  split
  · rename_i q; rw [if_pos q] at h0
    split
    · rename_i q5; rw [if_pos q5] at h0; simp at h0
    · rename_i q5; rw [if_neg q5] at h0; exact br_keep h (ha (by omega)) h0
  · rename_i q; rw [if_neg q] at h0
    exact ⟨step_keep h.s hl h0, h.m, by show X.ms.length ≤ _; omega, by show X.arms.length ≤ _; omega⟩

end Go.Proofs.Ytlndbligbpfdpaa
