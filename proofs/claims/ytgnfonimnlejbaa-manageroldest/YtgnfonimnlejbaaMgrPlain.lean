/-
  A MANAGER AS PLAIN DATA: deeds, what always holds, and what the document's manager differs in. No walk.
-/
import Derived.Test.YtgnfonimnlejbaaMgrChoose
import Derived.Test.YtgnfonimnlejbaaMgrRCh
import Derived.Test.YtgnfonimnlejbaaMgrTells
namespace Go.Proofs.Ytgnfonimnlejbaa
set_option linter.unusedVariables false
set_option linter.unusedSimpArgs false
open Go.RowKit

/-- A deed. -/
structure DeedM where
  kind : Int
  th : Int
  other : Int
  again : Bool

abbrev DeedM.val (d : DeedM) : Value := .agg #[.int .i64 d.kind, .int .i64 d.th, .int .i64 d.other, .bool d.again]

def stepM (M : MD) (d : DeedM) : MD :=
  if d.kind = 0 then (beganM M d.th d.again).2 else if d.kind = 1 then (onM openT M d.th).2 else if d.kind = 2 then (chooseM M d.th d.other).2
  else if d.kind = 3 then (onM stopT M d.th).2 else if d.kind = 4 then (onM endT M d.th).2 else M

def runM (M : MD) (l : List DeedM) : MD := l.foldl stepM M

/-- What always holds. -/
structure MInv (N : Int) (M : MD) : Prop where
  wf : MWf N M
  off : ∀ i, (M.t i).runs = false → (M.t i).tries = 0 ∧ (M.t i).merit = 0 ∧ (M.t i).stamp = 0
  on : ∀ i, (M.t i).runs = true → 1 ≤ (M.t i).stamp ∧ (M.t i).stamp ≤ M.n
  ne : ∀ i j, i ≠ j → (M.t i).runs = true → (M.t j).runs = true → (M.t i).stamp ≠ (M.t j).stamp

theorem MInv.new (k : Int) (hk : k = 1 ∨ k = 2 ∨ k = 3) : MInv 0 (newM k) :=
  ⟨⟨hk, by decide, by simp [newM], fun i => by simp [newM], fun i => by simp [newM]⟩, fun i _ => by simp [newM], fun i h => by simp [newM] at h, fun i j _ h => by simp [newM] at h⟩

theorem MInv.up {N : Int} {M : MD} (h : MInv N M) (hN : N + 1 < 4611686018427387904) : MInv (N + 1) M := by
  obtain ⟨⟨k, b, n, t, m⟩, o, on, ne⟩ := h
  exact ⟨⟨k, by omega, by omega, fun i => by have := t i; omega, m⟩, o, on, ne⟩

/-- One thread is put anew: it runs, and keeps its stamp. -/
theorem MInv.put {N : Int} {M : MD} (h : MInv N M) (hN : N + 1 < 4611686018427387904) (i : Nat) (x : TD) (hr : (M.t i).runs = true) (xr : x.runs = true) (xs : x.stamp = (M.t i).stamp) (xt : 0 ≤ x.tries ∧ x.tries ≤ N + 1) (xm : 0 ≤ x.merit ∧ x.merit ≤ 1000) : MInv (N + 1) (M.put i x) := by
  obtain ⟨⟨k, b, n, t, m⟩, o, on, ne⟩ := h
  refine ⟨⟨k, by omega, by simp only [MD.put]; omega, fun l => ?_, fun l => ?_⟩, fun l hl => ?_, fun l hl => ?_, fun l l' hll hl hl' => ?_⟩
  · simp only [MD.put_t]; split
    · exact xt
    · have := t l; omega
  · simp only [MD.put_t]; split
    · exact xm
    · exact m l
  · simp only [MD.put_t] at hl ⊢; split at hl
    · rw [xr] at hl; cases hl
    · rename_i hh; rw [if_neg hh]; exact o l hl
  · simp only [MD.put_t] at hl ⊢; split at hl
    · rename_i hh; rw [if_pos hh, xs]; exact on i hr
    · rename_i hh; rw [if_neg hh]; exact on l hl
  · simp only [MD.put_t] at hl hl' ⊢
    by_cases e : l = i
    · subst e
      have e' : ¬ l' = l := fun q => hll q.symm
      rw [if_neg e'] at hl' ⊢
      rw [if_pos rfl, xs]
      exact ne l l' hll hr hl'
    · rw [if_neg e] at hl ⊢
      by_cases e' : l' = i
      · subst e'
        rw [if_pos rfl, xs]
        exact ne l l' hll hl hr
      · rw [if_neg e'] at hl' ⊢
        exact ne l l' hll hl hl'

theorem MInv.ended {N : Int} {M : MD} (h : MInv N M) (hN : N + 1 < 4611686018427387904) (i : Nat) (v : Bool) : MInv (N + 1) (M.put i { zeroT with waits := v }) := by
  obtain ⟨⟨k, b, n, t, m⟩, o, on, ne⟩ := h
  refine ⟨⟨k, by omega, by simp only [MD.put]; omega, fun l => ?_, fun l => ?_⟩, fun l hl => ?_, fun l hl => ?_, fun l l' hll hl hl' => ?_⟩
  · simp only [MD.put_t]; split
    · simp only; omega
    · have := t l; omega
  · simp only [MD.put_t]; split
    · simp only; omega
    · exact m l
  · simp only [MD.put_t] at hl ⊢; split at hl
    · rename_i hh; rw [if_pos hh]; exact ⟨rfl, rfl, rfl⟩
    · rename_i hh; rw [if_neg hh]; exact o l hl
  · simp only [MD.put_t] at hl ⊢; split at hl
    · cases hl
    · rename_i hh; rw [if_neg hh]; exact on l hl
  · simp only [MD.put_t] at hl hl' ⊢
    split at hl
    · cases hl
    · rename_i e
      rw [if_neg e]
      split at hl'
      · cases hl'
      · rename_i e'
        rw [if_neg e']
        exact ne l l' hll hl hl'

theorem MInv.begun {N : Int} {M : MD} (h : MInv N M) (hN : N + 1 < 4611686018427387904) (i : Nat) : MInv (N + 1) { M.put i ⟨true, false, 0, 0, M.n + 1⟩ with n := M.n + 1 } := by
  obtain ⟨⟨k, b, n, t, m⟩, o, on, ne⟩ := h
  refine ⟨⟨k, by omega, by simp only [MD.put]; omega, fun l => ?_, fun l => ?_⟩, fun l hl => ?_, fun l hl => ?_, fun l l' hll hl hl' => ?_⟩
  · simp only [MD.put]; split
    · simp only; omega
    · have := t l; omega
  · simp only [MD.put]; split
    · simp only; omega
    · exact m l
  · simp only [MD.put] at hl ⊢; split at hl
    · cases hl
    · rename_i hh; rw [if_neg hh]; exact o l hl
  · simp only [MD.put] at hl ⊢; split at hl
    · rename_i hh; rw [if_pos hh]; simp only; omega
    · rename_i hh; rw [if_neg hh]; have := on l hl; omega
  · simp only [MD.put] at hl hl' ⊢
    by_cases e : l = i
    · subst e
      have e' : ¬ l' = l := fun q => hll q.symm
      rw [if_neg e'] at hl' ⊢
      rw [if_pos rfl]
      have := on l' hl'
      simp only; omega
    · rw [if_neg e] at hl ⊢
      by_cases e' : l' = i
      · subst e'
        rw [if_pos rfl]
        have := on l hl
        simp only; omega
      · rw [if_neg e'] at hl' ⊢
        exact ne l l' hll hl hl'

theorem bool_ne_false {b : Bool} (h : ¬ b = false) : b = true := by cases b <;> simp_all

theorem began_inv {N : Int} {M : MD} (h : MInv N M) (hN : N + 1 < 4611686018427387904) (th : Int) (again : Bool) : MInv (N + 1) (beganM M th again).2 := by
  unfold beganM
  split
  · exact h.up hN
  · split
    · exact h.up hN
    · rename_i hr
      split
      · rename_i ha
        have hr' : (M.t th.toNat).runs = true := by rw [← ha]; exact Classical.not_not.1 hr
        exact h.put hN _ _ hr' rfl rfl (by have := h.wf.bound; simp only; omega) (h.wf.merit _)
      · exact h.begun hN _

theorem on_inv {N : Int} {M : MD} (h : MInv N M) (hN : N + 1 < 4611686018427387904) (f : TD → TD) (hf : ∀ t, (f t).runs = t.runs ∧ (f t).stamp = t.stamp) (ht : ∀ t, 0 ≤ t.tries → t.tries ≤ N → 0 ≤ (f t).tries ∧ (f t).tries ≤ N + 1) (hm : ∀ t, 0 ≤ t.merit → t.merit ≤ 1000 → 0 ≤ (f t).merit ∧ (f t).merit ≤ 1000) (th : Int) : MInv (N + 1) (onM f M th).2 := by
  unfold onM
  split
  · exact h.up hN
  · split
    · exact h.up hN
    · rename_i hr
      have hr' := bool_ne_false hr
      exact h.put hN _ _ hr' ((hf _).1.trans hr') (hf _).2 (ht _ (h.wf.tries _).1 (h.wf.tries _).2) (hm _ (h.wf.merit _).1 (h.wf.merit _).2)

theorem step_inv {N : Int} {M : MD} (h : MInv N M) (hN : N + 1 < 4611686018427387904) (d : DeedM) : MInv (N + 1) (stepM M d) := by
  have hb := h.wf.bound
  unfold stepM
  split
  · exact began_inv h hN _ _
  split
  · exact on_inv h hN openT (fun t => ⟨rfl, rfl⟩) (fun t h0 h1 => by simp only [openT]; omega) (fun t h0 h1 => by simp only [openT]; split <;> omega) _
  split
  · unfold chooseM
    split
    · exact h.up hN
    split
    · exact h.up hN
    split
    · exact h.up hN
    split
    · exact h.up hN
    · rename_i hr _
      have hr' : (M.t d.th.toNat).runs = true := bool_ne_false fun e => hr (.inl e)
      exact h.put hN _ _ hr' hr' rfl (by have := h.wf.tries d.th.toNat; simp only [waitT]; omega) (h.wf.merit _)
  split
  · exact on_inv h hN stopT (fun t => ⟨rfl, rfl⟩) (fun t h0 h1 => by simp only [stopT]; omega) (fun t h0 h1 => ⟨h0, h1⟩) _
  split
  · unfold onM
    split
    · exact h.up hN
    split
    · exact h.up hN
    · exact h.ended hN _ _
  · exact h.up hN

theorem run_inv_aux (l : List DeedM) : ∀ (N : Int) (M : MD), MInv N M → N + l.length < 4611686018427387904 → MInv (N + l.length) (runM M l) := by
  induction l with
  | nil => intro N M h _; simpa [runM] using h
  | cons d l ih =>
    intro N M h hN
    simp only [List.length_cons] at hN
    have := ih (N + 1) (stepM M d) (step_inv h (by omega) d) (by push_cast at hN ⊢; omega)
    simp only [List.length_cons]
    rw [show (N + ((l.length + 1 : Nat) : Int)) = N + 1 + (l.length : Int) by push_cast; omega]
    exact this

theorem runM_inv (k : Int) (hk : k = 1 ∨ k = 2 ∨ k = 3) (l : List DeedM) (h : l.length ≤ 1000) : MInv l.length (runM (newM k) l) := by
  have := run_inv_aux l 0 (newM k) (MInv.new k hk) (by omega)
  rwa [Int.zero_add] at this

theorem runM_snoc {l : List DeedM} {k : Nat} (hk : k < l.length) (s : MD) : runM s (l.take (k + 1)) = stepM (runM s (l.take k)) l[k] := by
  rw [List.take_succ_eq_append_getElem hk, runM, List.foldl_append]; rfl

theorem step_k (M : MD) (d : DeedM) : (stepM M d).k = M.k := by
  unfold stepM beganM onM chooseM
  repeat' split
  all_goals rfl

theorem runM_k (M : MD) (l : List DeedM) : (runM M l).k = M.k := by
  induction l generalizing M with
  | nil => rfl
  | cons d l ih => exact (ih (stepM M d)).trans (step_k M d)

/-! ### The document's manager forgets that an ended thread waited -/
def nrmT (t : TD) : TD := if t.runs = true then t else { t with waits := false }
def nrmM (M : MD) : MD := { M with t := fun i => nrmT (M.t i) }

theorem nrmT_on {t : TD} (h : t.runs = true) : nrmT t = t := if_pos h
theorem nrmT_runs (t : TD) : (nrmT t).runs = t.runs := by unfold nrmT; split <;> rfl

theorem nrm_put (M : MD) (i : Nat) (x y : TD) (h : nrmT y = x) : (nrmM M).put i x = nrmM (M.put i y) := by
  simp only [nrmM, MD.put, MD.mk.injEq, true_and, and_true]
  funext j
  split
  · exact h.symm
  · rfl

theorem nrm_inv {N : Int} {M : MD} (h : MWf N M) : MWf N (nrmM M) :=
  ⟨h.kind, h.bound, h.n, fun i => by have := h.tries i; simp only [nrmM, nrmT]; split <;> exact this, fun i => by have := h.merit i; simp only [nrmM, nrmT]; split <;> exact this⟩

theorem began_nrm (M : MD) (th : Int) (again : Bool) : beganM (nrmM M) th again = ((beganM M th again).1, nrmM (beganM M th again).2) := by
  have e : ((nrmM M).t th.toNat).runs = (M.t th.toNat).runs := nrmT_runs _
  unfold beganM
  rw [e]
  split
  · rfl
  split
  · rfl
  · rename_i hr
    split
    · rename_i ha
      have hr' : (M.t th.toNat).runs = true := by rw [← ha]; exact Classical.not_not.1 hr
      refine Prod.ext rfl (nrm_put _ _ _ _ ?_)
      rw [nrmT_on rfl]
      show _ = { nrmT (M.t th.toNat) with runs := true, waits := false, tries := 0 }
      rw [nrmT_on hr']
    · refine Prod.ext rfl ?_
      have := nrm_put M th.toNat ⟨true, false, 0, 0, M.n + 1⟩ ⟨true, false, 0, 0, M.n + 1⟩ (nrmT_on rfl)
      simp only [nrmM, MD.put, MD.mk.injEq, true_and, and_true] at this ⊢
      exact this

theorem on_nrm (f g : TD → TD) (hf : ∀ t, t.runs = true → nrmT (f t) = g t) (M : MD) (th : Int) : onM g (nrmM M) th = ((onM f M th).1, nrmM (onM f M th).2) := by
  have e : ((nrmM M).t th.toNat).runs = (M.t th.toNat).runs := nrmT_runs _
  unfold onM
  rw [e]
  split
  · rfl
  split
  · rfl
  · rename_i hr
    have hr' := bool_ne_false hr
    refine Prod.ext rfl (nrm_put _ _ _ _ ?_)
    rw [hf _ hr']
    show _ = g (nrmT _)
    rw [nrmT_on hr']

theorem choose_nrm (M : MD) (th other : Int) : chooseM (nrmM M) th other = ((chooseM M th other).1, nrmM (chooseM M th other).2) := by
  have e : ((nrmM M).t th.toNat).runs = (M.t th.toNat).runs := nrmT_runs _
  have e' : ((nrmM M).t other.toNat).runs = (M.t other.toNat).runs := nrmT_runs _
  unfold chooseM
  rw [e, e']
  split
  · rfl
  split
  · rfl
  split
  · rfl
  · rename_i hr
    have h1 : (nrmM M).t th.toNat = M.t th.toNat := nrmT_on (bool_ne_false fun q => hr (.inl q))
    have h2 : (nrmM M).t other.toNat = M.t other.toNat := nrmT_on (bool_ne_false fun q => hr (.inr (.inl q)))
    rw [h1, h2, show (nrmM M).k = M.k from rfl]
    split
    · rfl
    · exact Prod.ext rfl (nrm_put _ _ _ _ (nrmT_on (bool_ne_false fun q => hr (.inl q))))

end Go.Proofs.Ytgnfonimnlejbaa
