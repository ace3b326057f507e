/-
  SpecNothing: the State that it is cut to.
-/
import Derived.Test.YtlndbligbpfdpaaSnFew
import Derived.Test.YtlndbligbpfdpaaSlWalk
namespace Go.Proofs.Ytlndbligbpfdpaa
set_option linter.unusedVariables false
set_option linter.unusedSimpArgs false
open Go.RowKit
attribute [local go_sem] Oper.semAt_some

set_option maxRecDepth 100000 in
set_option maxHeartbeats 2000000 in
theorem spstate_any (D : WD) (sa oa : Option Addr) (ns sc no oc : Nat) (h1 : ns ≤ sc) (h2 : sc ≤ 9223372036854775807) (h3 : no ≤ oc) (h4 : oc ≤ 9223372036854775807) (w : World) : Calls Try.prog 10 #[stV D (.slice sa ns sc) (.slice oa no oc)] w fun e w' => e = .returned (stV D (.slice sa (cutN 20 ns) sc) (.slice oa (cutN 30 no) oc)) ∧ Touch w w' [] := by
  by_cases hA : 20 < ns <;> by_cases hB : 30 < no
  · have e1 : cutN 20 ns = 20 := by unfold cutN; rw [if_pos (by omega)]
    have e2 : cutN 30 no = 30 := by unfold cutN; rw [if_pos (by omega)]
    rw [e1, e2]
    have g1 : (20 : Int) < ns := by omega
    have g2 : (30 : Int) < no := by omega
    have g3 : (20 : Int) ≤ sc := by omega
    have g4 : 20 ≤ sc := by omega
    have g5 : (30 : Int) ≤ oc := by omega
    have g6 : 30 ≤ oc := by omega
    clear e1 e2
    go_enter Try.func10, Try.ntmps10
    go_wp2
    refine bodyPost_ret (v := stV D (.slice sa 20 sc) (.slice oa 30 oc)) ?_ rfl ⟨rfl, ((Touch.refl w []).alloc _).alloc _⟩
    rw [res_cell rfl]
    go_simp
  · have e1 : cutN 20 ns = 20 := by unfold cutN; rw [if_pos (by omega)]
    have e2 : cutN 30 no = no := by unfold cutN; rw [if_neg (by omega)]
    rw [e1, e2]
    have g1 : (20 : Int) < ns := by omega
    have g2 : ¬ (30 : Int) < no := by omega
    have g3 : (20 : Int) ≤ sc := by omega
    have g4 : 20 ≤ sc := by omega
    clear e1 e2
    go_enter Try.func10, Try.ntmps10
    go_wp2
    refine bodyPost_ret (v := stV D (.slice sa 20 sc) (.slice oa no oc)) ?_ rfl ⟨rfl, ((Touch.refl w []).alloc _).alloc _⟩
    rw [res_cell rfl]
    go_simp
  · have e1 : cutN 20 ns = ns := by unfold cutN; rw [if_neg (by omega)]
    have e2 : cutN 30 no = 30 := by unfold cutN; rw [if_pos (by omega)]
    rw [e1, e2]
    have g1 : ¬ (20 : Int) < ns := by omega
    have g2 : (30 : Int) < no := by omega
    have g5 : (30 : Int) ≤ oc := by omega
    have g6 : 30 ≤ oc := by omega
    clear e1 e2
    go_enter Try.func10, Try.ntmps10
    go_wp2
    refine bodyPost_ret (v := stV D (.slice sa ns sc) (.slice oa 30 oc)) ?_ rfl ⟨rfl, ((Touch.refl w []).alloc _).alloc _⟩
    rw [res_cell rfl]
    go_simp
  · have e1 : cutN 20 ns = ns := by unfold cutN; rw [if_neg (by omega)]
    have e2 : cutN 30 no = no := by unfold cutN; rw [if_neg (by omega)]
    rw [e1, e2]
    have g1 : ¬ (20 : Int) < ns := by omega
    have g2 : ¬ (30 : Int) < no := by omega
    clear e1 e2
    go_enter Try.func10, Try.ntmps10
    go_wp2
    refine bodyPost_ret (v := stV D (.slice sa ns sc) (.slice oa no oc)) ?_ rfl ⟨rfl, ((Touch.refl w []).alloc _).alloc _⟩
    rw [res_cell rfl]
    go_simp

set_option maxRecDepth 100000 in
set_option maxHeartbeats 2000000 in
theorem spsames_any (D : WD) (sa oa sa' oa' : Option Addr) (sc oc sc' oc' : Nat) (hs : D.st.length ≤ 1000) (ho : D.out.length ≤ 1000) (w : World) (r1 : VRow w (.slice sa D.st.length sc) D.st) (r2 : VRow w (.slice oa D.out.length oc) D.out) (r3 : VRow w (.slice sa' D.st.length sc') D.st) (r4 : VRow w (.slice oa' D.out.length oc') D.out) :
    Calls Try.prog 13 #[stV D (.slice sa D.st.length sc) (.slice oa D.out.length oc), stV D (.slice sa' D.st.length sc') (.slice oa' D.out.length oc')] w fun e w' => e = .returned (.bool true) ∧ Touch w w' [] := by
  have T0 : Hid (Touch w ((w.alloc (.cells #[.int .i64 D.pc, .slice sa D.st.length sc, .int .u64 D.l0, .int .u64 D.l1, .int .u64 D.l2, .int .u64 D.l3, .slice oa D.out.length oc] 28)).alloc (.cells #[.int .i64 D.pc, .slice sa' D.st.length sc', .int .u64 D.l0, .int .u64 D.l1, .int .u64 D.l2, .int .u64 D.l3, .slice oa' D.out.length oc'] 28)) []) := ((Touch.refl w []).alloc _).alloc _
  have HS : Hid (∀ W, Touch w W [] → HidC _ _ _ _ _) := fun W t => ⟨spsame_any sa sa' sc sc' D.st W hs (SRow.keep r1 t (by simp)) (SRow.keep r3 t (by simp))⟩
  have HO : Hid (∀ W, Touch w W [] → HidC _ _ _ _ _) := fun W t => ⟨spsame_any oa oa' oc oc' D.out W ho (SRow.keep r2 t (by simp)) (SRow.keep r4 t (by simp))⟩
  have heq := eq4 D.l0 D.l1 D.l2 D.l3
  have hx : Hid (∀ W, Touch ((w.alloc (.cells #[.int .i64 D.pc, .slice sa D.st.length sc, .int .u64 D.l0, .int .u64 D.l1, .int .u64 D.l2, .int .u64 D.l3, .slice oa D.out.length oc] 28)).alloc (.cells #[.int .i64 D.pc, .slice sa' D.st.length sc', .int .u64 D.l0, .int .u64 D.l1, .int .u64 D.l2, .int .u64 D.l3, .slice oa' D.out.length oc'] 28)) W [] → W.heap[w.heap.size]? = some (.cells #[.int .i64 D.pc, .slice sa D.st.length sc, .int .u64 D.l0, .int .u64 D.l1, .int .u64 D.l2, .int .u64 D.l3, .slice oa D.out.length oc] 28 (0, 0)) ∧ W.heap[w.heap.size + 1]? = some (.cells #[.int .i64 D.pc, .slice sa' D.st.length sc', .int .u64 D.l0, .int .u64 D.l1, .int .u64 D.l2, .int .u64 D.l3, .slice oa' D.out.length oc'] 28 (0, 0))) := fun W t => by
    have h1 : ((w.alloc (.cells #[.int .i64 D.pc, .slice sa D.st.length sc, .int .u64 D.l0, .int .u64 D.l1, .int .u64 D.l2, .int .u64 D.l3, .slice oa D.out.length oc] 28)).alloc (.cells #[.int .i64 D.pc, .slice sa' D.st.length sc', .int .u64 D.l0, .int .u64 D.l1, .int .u64 D.l2, .int .u64 D.l3, .slice oa' D.out.length oc'] 28)).heap[w.heap.size]? = some (.cells #[.int .i64 D.pc, .slice sa D.st.length sc, .int .u64 D.l0, .int .u64 D.l1, .int .u64 D.l2, .int .u64 D.l3, .slice oa D.out.length oc] 28 (0, 0)) := (heap_alloc_old _ _ (by simp)).trans (heap_alloc_new w _)
    have h2 : ((w.alloc (.cells #[.int .i64 D.pc, .slice sa D.st.length sc, .int .u64 D.l0, .int .u64 D.l1, .int .u64 D.l2, .int .u64 D.l3, .slice oa D.out.length oc] 28)).alloc (.cells #[.int .i64 D.pc, .slice sa' D.st.length sc', .int .u64 D.l0, .int .u64 D.l1, .int .u64 D.l2, .int .u64 D.l3, .slice oa' D.out.length oc'] 28)).heap[w.heap.size + 1]? = some (.cells #[.int .i64 D.pc, .slice sa' D.st.length sc', .int .u64 D.l0, .int .u64 D.l1, .int .u64 D.l2, .int .u64 D.l3, .slice oa' D.out.length oc'] 28 (0, 0)) := by have := heap_alloc_new (w.alloc (.cells #[.int .i64 D.pc, .slice sa D.st.length sc, .int .u64 D.l0, .int .u64 D.l1, .int .u64 D.l2, .int .u64 D.l3, .slice oa D.out.length oc] 28)) (.cells #[.int .i64 D.pc, .slice sa' D.st.length sc', .int .u64 D.l0, .int .u64 D.l1, .int .u64 D.l2, .int .u64 D.l3, .slice oa' D.out.length oc'] 28); simpa using this
    exact ⟨(t.block _ (lt_of_heap h1) (by simp)).trans h1, (t.block _ (lt_of_heap h2) (by simp)).trans h2⟩
  clear hs ho r1 r2 r3 r4
  generalize D.st.length = ns at *
  generalize D.out.length = no at *
  go_enter Try.func13, Try.ntmps13
  go_wp2_with fail
  generalize ((w.alloc (.cells #[.int .i64 D.pc, .slice sa ns sc, .int .u64 D.l0, .int .u64 D.l1, .int .u64 D.l2, .int .u64 D.l3, .slice oa no oc] 28)).alloc (.cells #[.int .i64 D.pc, .slice sa' ns sc', .int .u64 D.l0, .int .u64 D.l1, .int .u64 D.l2, .int .u64 D.l3, .slice oa' no oc'] 28)) = Q at *
  refine (HS.out _ T0.out).out.mono ?_
  rintro e w1 ⟨rfl, t1⟩
  obtain ⟨k1, k2⟩ := hx.out _ t1
  have c6 : w1.cell? ⟨w.heap.size, 6, none⟩ = some (.slice oa no oc) := by unfold World.cell?; rw [k1]; rfl
  have d6 : w1.cell? ⟨w.heap.size + 1, 6, none⟩ = some (.slice oa' no oc') := by unfold World.cell?; rw [k2]; rfl
  have T1 : Hid _ := T0.out.trans t1 (by simp)
  clear k1 k2 t1 HS hx T0
  go_wp2_with fail
  refine (HO.out _ T1.out).out.mono ?_
  rintro e w2 ⟨rfl, t2⟩
  have T2 : Hid _ := T1.out.trans t2 (by simp)
  clear t2 HO T1 c6 d6
  go_wp2
  go_ret
  exact ⟨rfl, T2.out⟩

end Go.Proofs.Ytlndbligbpfdpaa
