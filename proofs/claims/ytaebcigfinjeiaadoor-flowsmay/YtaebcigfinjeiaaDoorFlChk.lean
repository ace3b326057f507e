/-
  The blocks of flows, with halt behind, may be run: PLAIN DATA.
-/
import Derived.Test.YtaebcigfinjeiaaDoorFlOne
import Derived.Test.YtaebcigfinjeiaaDoorVfCheck
namespace Go.Proofs.YtaebcigfinjeiaaDoor
set_option linter.unusedVariables false
set_option linter.unusedSimpArgs false
open Go.RowKit

def restV (l : List InsD) (tvars : Int) : Nat × Int := match regV l with
    | some k => (k, 8)
    | none => match fbad (okBel l) l.length with
      | some k => (k, 8)
      | none => match fbad (rchV l (insV l l.length) tvars) l.length with
        | some k => (k, 2)
        | none => ((depV l).2.1, (depV l).1)
theorem chk_rest {l : List InsD} {x : Int} (h0 : l.length ≠ 0) (h1 : l.length ≤ 64) (hr : ∀ i ∈ l, rightI i = true) : chkV l x = restV l x := by
  have hf : fbad (okRight l) l.length = none := fbad_none (fun j hj => by
    unfold okRight
    rw [List.getElem?_eq_getElem hj]
    exact hr _ (List.getElem_mem hj))
  unfold chkV restV
  rw [if_neg (by omega), hf]
  rfl
theorem push_right {v : Int} (h : rightB v = true) : rightI ⟨1, 0, v⟩ = true := by
  unfold rightI
  simp [argP, valP, highP, h]
set_option maxRecDepth 100000 in
theorem enter_right (n v : Int) (hn : n = 1 ∨ n = 2 ∨ n = 3 ∨ n = 4) (h : rightB v = true) : ∀ i ∈ enterI 0 0 n 0 v ++ [insO 28 0], rightI i = true := by
  intro i hi
  rcases hn with rfl | rfl | rfl | rfl
  all_goals
    simp only [enterI, List.cons_append, List.nil_append, List.mem_cons, List.not_mem_nil, or_false] at hi
    rcases hi with rfl | rfl | rfl | rfl | rfl | rfl | rfl | rfl | rfl | rfl | rfl | rfl | rfl | rfl | rfl | rfl | rfl | rfl | rfl | rfl | rfl | rfl | rfl | rfl
    all_goals first | exact push_right h | decide +kernel
theorem enter_rest (n v : Int) (hn : n = 1 ∨ n = 2 ∨ n = 3 ∨ n = 4) : (restV (enterI 0 0 n 0 v ++ [insO 28 0]) (n + 2)).2 = 0 := by
  rcases hn with rfl | rfl | rfl | rfl
  · kernel_rfl
  · kernel_rfl
  · kernel_rfl
  · kernel_rfl
set_option maxRecDepth 100000 in
theorem others_fin : ∀ n : Fin 4, (chkV (takeI 0 0 ((n.val : Int) + 1) 0 0 ++ [insO 28 0]) ((n.val : Int) + 1 + 2)).2 = 0 ∧ (chkV (arriveI 0 0 ((n.val : Int) + 1) 0 0 ++ [insO 28 0]) ((n.val : Int) + 1 + 2)).2 = 0 ∧ (chkV (leaveI 0 0 0 2 0 ++ [insO 28 0]) ((n.val : Int) + 1 + 2)).2 = 0 := by decide +kernel
theorem fl_chk (j n v : Int) (n0 : 1 ≤ n) (n1 : n ≤ 4) (h : rightB v = true) : (chkV (foneL j n v ++ [insO 28 0]) (n + 2)).2 = 0 := by
  have ho := others_fin ⟨(n - 1).toNat, by omega⟩
  have e : (((n - 1).toNat : Nat) : Int) + 1 = n := by omega
  simp only [e] at ho
  have hn : n = 1 ∨ n = 2 ∨ n = 3 ∨ n = 4 := by omega
  unfold foneL
  split
  · rw [chk_rest (by simp [enterI]) (by simp [enterI]) (enter_right n v hn h)]
    exact enter_rest n v hn
  · split
    · exact ho.1
    · split
      · exact ho.2.1
      · exact ho.2.2
theorem fone_len (j n v : Int) : (foneL j n v).length ≤ 24 := by
  unfold foneL
  split
  · simp [enterI]
  · split
    · simp [takeI]
    · split
      · simp [arriveI]
      · simp [leaveI]

end Go.Proofs.YtaebcigfinjeiaaDoor
