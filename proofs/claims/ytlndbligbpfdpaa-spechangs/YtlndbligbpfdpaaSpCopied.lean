/-
  package spec: copied BY ITS CONTRACT.
-/
import Derived.Test.YtlndbligbpfdpaaSpClone
import Derived.Deep.RegionHeld3
namespace Go.Proofs.Ytlndbligbpfdpaa
set_option linter.unusedVariables false
set_option linter.unusedSimpArgs false
open Go.RowKit
attribute [local go_sem] Oper.semAt_some

/-- A State as a value. -/
abbrev stV (D : WD) (vs vo : Value) : Value := .agg #[.int .i64 D.pc, vs, .int .u64 D.l0, .int .u64 D.l1, .int .u64 D.l2, .int .u64 D.l3, vo]
/-- A State in a block of its own. -/
structure StB (w : World) (p : Nat) (D : WD) (vs vo : Value) : Prop where
  st : w.heap[p]? = some (.cells #[.int .i64 D.pc, vs, .int .u64 D.l0, .int .u64 D.l1, .int .u64 D.l2, .int .u64 D.l3, vo] 28 (0, 0))
theorem StB.touch {w w' : World} {p : Nat} {D : WD} {vs vo : Value} {S : List Nat} (h : StB w p D vs vo) (t : Touch w w' S) (hS : p ∉ S) : StB w' p D vs vo := ⟨(t.block p (lt_of_heap h.st) hS).trans h.st⟩
theorem StB.cells {w : World} {p : Nat} {D : WD} {vs vo : Value} (h : StB w p D vs vo) : w.cell? ⟨p, 0, none⟩ = some (.int .i64 D.pc) ∧ w.cell? ⟨p, 1, none⟩ = some vs ∧ w.cell? ⟨p, 2, none⟩ = some (.int .u64 D.l0) ∧ w.cell? ⟨p, 3, none⟩ = some (.int .u64 D.l1) ∧ w.cell? ⟨p, 4, none⟩ = some (.int .u64 D.l2) ∧ w.cell? ⟨p, 5, none⟩ = some (.int .u64 D.l3) ∧ w.cell? ⟨p, 6, none⟩ = some vo := by
  refine ⟨?_, ?_, ?_, ?_, ?_, ?_, ?_⟩ <;> (unfold World.cell?; rw [h.st]; rfl)
theorem StB.fr {w : World} {p : Nat} {D : WD} {vs vo : Value} (h : StB w p D vs vo) (j : Nat) : w.frozen? ⟨p, j, none⟩ = false := by unfold World.frozen?; rw [h.st]; simp
theorem StB.set1 {w : World} {p : Nat} {D : WD} {vs vo : Value} (h : StB w p D vs vo) (v : Value) : StB (w.setCell ⟨p, 1, none⟩ v) p D v vo := ⟨by rw [heap_setCell_same _ _ _ _ _ _ h.st]; simp⟩
theorem StB.set6 {w : World} {p : Nat} {D : WD} {vs vo : Value} (h : StB w p D vs vo) (v : Value) : StB (w.setCell ⟨p, 6, none⟩ v) p D vs v := ⟨by rw [heap_setCell_same _ _ _ _ _ _ h.st]; simp⟩

theorem own_base {w : World} {B B' : Nat} {e : TypeId} {size : Nat} {v : Value} {n : Nat} {xs : List Value} (h : w.ownsRow B e size v n xs) (hB : B' ≤ B) : w.ownsRow B' e size v n xs := by
  refine ⟨h.1, ?_⟩
  rcases h.2 with hn | ⟨g', cap', cur, e, hb, r⟩
  · exact .inl hn
  · exact .inr ⟨g', cap', cur, e, Nat.le_trans hB hb, r⟩
/-- A State stored over another one. -/
abbrev stPut (w : World) (p : Nat) (D : WD) (vs vo : Value) : World := ((((((w.setCell ⟨p, 0, none⟩ (.int .i64 D.pc)).setCell ⟨p, 1, none⟩ vs).setCell ⟨p, 2, none⟩ (.int .u64 D.l0)).setCell ⟨p, 3, none⟩ (.int .u64 D.l1)).setCell ⟨p, 4, none⟩ (.int .u64 D.l2)).setCell ⟨p, 5, none⟩ (.int .u64 D.l3)).setCell ⟨p, 6, none⟩ vo
theorem StB.put {w : World} {p : Nat} {D0 : WD} {v0 o0 : Value} (h : StB w p D0 v0 o0) (D : WD) (vs vo : Value) : StB (stPut w p D vs vo) p D vs vo :=
  ⟨by
    rw [heap_setCell_same _ _ _ _ _ _ (heap_setCell_same _ _ _ _ _ _ (heap_setCell_same _ _ _ _ _ _ (heap_setCell_same _ _ _ _ _ _ (heap_setCell_same _ _ _ _ _ _ (heap_setCell_same _ _ _ _ _ _ (heap_setCell_same _ _ _ _ _ _ h.st))))))]
    simp⟩
theorem stPut_touch (w : World) (p : Nat) (D : WD) (vs vo : Value) : Touch w (stPut w p D vs vo) [p] := (((((((Touch.refl w [p]).setCell (.inl (by simp)) _).setCell (.inl (by simp)) _).setCell (.inl (by simp)) _).setCell (.inl (by simp)) _).setCell (.inl (by simp)) _).setCell (.inl (by simp)) _).setCell (.inl (by simp)) _
/-- What copied leaves. -/
def CopP (w : World) (D : WD) (e : Ending) (w' : World) : Prop := ∃ vs' vo', e = .returned (stV D vs' vo') ∧ valOwn w' w.heap.size vs' D.st ∧ valOwn w' w.heap.size vo' D.out ∧ (∀ g, vs'.ownBlock = some g → vo'.ownBlock ≠ some g) ∧ Touch w w' []
theorem cop_fin {w Q w5 w6 : World} {D : WD} {vs vo : Value} {a5 a6 : Option Addr} {k5 k6 : Nat} (hQ : Q.heap.size = w.heap.size + 2) (t0 : Touch w Q []) (hb : StB Q w.heap.size D vs vo) (hr : StB Q (w.heap.size + 1) ⟨0, [], 0, 0, 0, 0, [], 0⟩ (.slice none 0 0) (.slice none 0 0))
    (o5 : valOwn w5 Q.heap.size (.slice a5 D.st.length k5) D.st) (t5 : Touch Q w5 []) (o6 : valOwn w6 w5.heap.size (.slice a6 D.out.length k6) D.out) (t6 : Touch w5 w6 []) :
    StB ((w6.setCell ⟨w.heap.size, 1, none⟩ (.slice a5 D.st.length k5)).setCell ⟨w.heap.size, 6, none⟩ (.slice a6 D.out.length k6)) w.heap.size D (.slice a5 D.st.length k5) (.slice a6 D.out.length k6) ∧
    StB ((w6.setCell ⟨w.heap.size, 1, none⟩ (.slice a5 D.st.length k5)).setCell ⟨w.heap.size, 6, none⟩ (.slice a6 D.out.length k6)) (w.heap.size + 1) ⟨0, [], 0, 0, 0, 0, [], 0⟩ (.slice none 0 0) (.slice none 0 0) ∧
    (∀ W', Touch ((w6.setCell ⟨w.heap.size, 1, none⟩ (.slice a5 D.st.length k5)).setCell ⟨w.heap.size, 6, none⟩ (.slice a6 D.out.length k6)) W' [w.heap.size + 1] → CopP w D (.returned (stV D (.slice a5 D.st.length k5) (.slice a6 D.out.length k6))) W') := by
  have t56 : Touch Q w6 [] := t5.trans t6 (by simp)
  have tS : Touch w6 ((w6.setCell ⟨w.heap.size, 1, none⟩ (.slice a5 D.st.length k5)).setCell ⟨w.heap.size, 6, none⟩ (.slice a6 D.out.length k6)) [w.heap.size] := ((Touch.refl w6 _).setCell (.inl (by simp)) _).setCell (.inl (by simp)) _
  refine ⟨((hb.touch t56 (by simp)).set1 _).set6 _, (hr.touch t56 (by simp)).touch tS (by simp), fun W' tW => ?_⟩
  have hs5 := t5.size
  have b5 : ∀ g, (Value.slice a5 D.st.length k5).ownBlock = some g → w.heap.size + 2 ≤ g ∧ g < w5.heap.size := fun g hg => by have := o5.lt g hg; omega
  have b6 : ∀ g, (Value.slice a6 D.out.length k6).ownBlock = some g → w5.heap.size ≤ g := fun g hg => (o6.lt g hg).1
  have tF : Touch w6 W' [w.heap.size, w.heap.size + 1] := (tS.mono (by simp)).trans tW (by simp)
  have O5 : valOwn W' Q.heap.size (.slice a5 D.st.length k5) D.st := ownsRow_touch (ownsRow_touch o5 t6 (by simp)) tF (fun g hg => by have := b5 g hg; simp; omega)
  have O6 : valOwn W' w5.heap.size (.slice a6 D.out.length k6) D.out := ownsRow_touch o6 tF (fun g hg => by have := b6 g hg; simp; omega)
  refine ⟨_, _, rfl, own_base O5 (by omega), own_base O6 (by omega), fun g hg hg' => ?_, ?_⟩
  · have := b5 g hg
    have := b6 g hg'
    omega
  · exact (t0.trans t56 (by simp)).trans tF (fun x hx => .inr (by simp at hx; omega))

set_option maxRecDepth 100000 in
set_option maxHeartbeats 2000000 in
theorem copied_any {w : World} {vs vo : Value} {D : WD} (hs : VRow w vs D.st) (ho : VRow w vo D.out) (hsl : D.st.length ≤ 100000) (hol : D.out.length ≤ 100000) :
    Calls Try.prog 34 #[stV D vs vo] w (CopP w D) := by
  have HB : Hid (StB ((w.alloc (.cells #[.int .i64 D.pc, vs, .int .u64 D.l0, .int .u64 D.l1, .int .u64 D.l2, .int .u64 D.l3, vo] 28)).alloc (.cells #[.int .i64 0, .slice none 0 0, .int .u64 0, .int .u64 0, .int .u64 0, .int .u64 0, .slice none 0 0] 28)) w.heap.size D vs vo) := StB.touch (⟨heap_alloc_new w _⟩ : StB (w.alloc (.cells #[.int .i64 D.pc, vs, .int .u64 D.l0, .int .u64 D.l1, .int .u64 D.l2, .int .u64 D.l3, vo] 28)) w.heap.size D vs vo) ((Touch.refl _ []).alloc _) (by simp)
  have HT0 : Hid (Touch w ((w.alloc (.cells #[.int .i64 D.pc, vs, .int .u64 D.l0, .int .u64 D.l1, .int .u64 D.l2, .int .u64 D.l3, vo] 28)).alloc (.cells #[.int .i64 0, .slice none 0 0, .int .u64 0, .int .u64 0, .int .u64 0, .int .u64 0, .slice none 0 0] 28)) []) := ((Touch.refl w []).alloc _).alloc _
  have HC1 : Hid (∀ W, Touch w W [] → HidC Try.prog 32 #[vs] W (PushP W D.st)) := fun W t => ⟨sclone_any (SRow.keep hs t (by simp)) hsl⟩
  have HC2 : Hid (∀ W, Touch w W [] → HidC Try.prog 32 #[vo] W (PushP W D.out)) := fun W t => ⟨sclone_any (SRow.keep ho t (by simp)) hol⟩
  have HRS : Hid (StB ((w.alloc (.cells #[.int .i64 D.pc, vs, .int .u64 D.l0, .int .u64 D.l1, .int .u64 D.l2, .int .u64 D.l3, vo] 28)).alloc (.cells #[.int .i64 0, .slice none 0 0, .int .u64 0, .int .u64 0, .int .u64 0, .int .u64 0, .slice none 0 0] 28)) (w.heap.size + 1) ⟨0, [], 0, 0, 0, 0, [], 0⟩ (.slice none 0 0) (.slice none 0 0)) := ⟨by
    have := heap_alloc_new (w.alloc (.cells #[.int .i64 D.pc, vs, .int .u64 D.l0, .int .u64 D.l1, .int .u64 D.l2, .int .u64 D.l3, vo] 28)) (.cells #[.int .i64 0, .slice none 0 0, .int .u64 0, .int .u64 0, .int .u64 0, .int .u64 0, .slice none 0 0] 28)
    simpa using this⟩
  have HQS : Hid (((w.alloc (.cells #[.int .i64 D.pc, vs, .int .u64 D.l0, .int .u64 D.l1, .int .u64 D.l2, .int .u64 D.l3, vo] 28)).alloc (.cells #[.int .i64 0, .slice none 0 0, .int .u64 0, .int .u64 0, .int .u64 0, .int .u64 0, .slice none 0 0] 28)).heap.size = w.heap.size + 2) := by show _ = _; simp
  clear hs ho hsl hol
  go_enter Try.func34, Try.ntmps34
  go_wp2_with fail
  generalize (w.alloc (.cells #[.int .i64 D.pc, vs, .int .u64 D.l0, .int .u64 D.l1, .int .u64 D.l2, .int .u64 D.l3, vo] 28)).alloc (.cells #[.int .i64 0, .slice none 0 0, .int .u64 0, .int .u64 0, .int .u64 0, .int .u64 0, .slice none 0 0] 28) = Q at *
  have td : Touch Q Q.drew [] := (Touch.refl Q []).drew
  obtain ⟨x0, x1, x2, x3, x4, x5, x6⟩ := (HB.out.touch td (by simp)).cells
  clear x0 x2 x3 x4 x5
  go_region_with (first | (go_at_call 32; refine (HC1.out _ (HT0.out.trans td (by simp))).out.mono ?_; rintro e w5 ⟨v5, rfl, o5, t5'⟩; obtain ⟨a5, k5, rfl⟩ := owns_slice o5; have t5 : Touch Q w5 [] := td.trans t5' (by simp); obtain ⟨y0, y1, y2, y3, y4, y5, y6⟩ := (HB.out.touch t5 (by simp)).cells; clear y0 y2 y3 y4 y5; have g1 := (HB.out.touch t5 (by simp)).fr 1) | (go_at_call 32; refine (HC2.out _ (HT0.out.trans t5 (by simp))).out.mono ?_; rintro e w6 ⟨v6, rfl, o6, t6'⟩; obtain ⟨a6, k6, rfl⟩ := owns_slice o6; have t6 : Touch Q w6 [] := t5.trans t6' (by simp); obtain ⟨z0, z1, z2, z3, z4, z5, z6⟩ := (HB.out.touch t6 (by simp)).cells; have e1 := (HB.out.touch t6 (by simp)).fr 1; have e6 := (HB.out.touch t6 (by simp)).fr 6))
  all_goals
    obtain ⟨hX, hY, hZ⟩ := cop_fin HQS.out HT0.out HB.out HRS.out o5 t5 o6 t6'
    have HZ : Hid _ := hZ
    have HY : Hid _ := hY
    obtain ⟨x0, x1', x2, x3, x4, x5, x6'⟩ := hX.cells
    obtain ⟨q0, q1, q2, q3, q4, q5, q6⟩ := hY.cells
    have r0 := hY.fr 0
    have r1 := hY.fr 1
    have r2 := hY.fr 2
    have r3 := hY.fr 3
    have r4 := hY.fr 4
    have r5 := hY.fr 5
    have r6 := hY.fr 6
    clear hX hY hZ o5 t5 o6 t6' t6
    generalize ((w6.setCell ⟨w.heap.size, 1, none⟩ (.slice a5 D.st.length k5)).setCell ⟨w.heap.size, 6, none⟩ (.slice a6 D.out.length k6)) = W7 at *
    go_wp2
    have hfin := HY.out.put D (.slice a5 D.st.length k5) (.slice a6 D.out.length k6)
    obtain ⟨z0', z1', z2', z3', z4', z5', z6'⟩ := hfin.cells
    refine bodyPost_ret (v := stV D (.slice a5 D.st.length k5) (.slice a6 D.out.length k6)) ?_ rfl (HZ.out _ (stPut_touch _ _ _ _ _))
    rw [res_cell rfl]
    simp [go_sem, z0', z1', z2', z3', z4', z5', z6']

end Go.Proofs.Ytlndbligbpfdpaa
