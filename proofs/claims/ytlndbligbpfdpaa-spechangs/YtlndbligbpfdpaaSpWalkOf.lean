/-
  package spec: walkOf BY ITS CONTRACT.
-/
import Derived.Test.YtlndbligbpfdpaaSpCopied
namespace Go.Proofs.Ytlndbligbpfdpaa
set_option linter.unusedVariables false
set_option linter.unusedSimpArgs false
open Go.RowKit
attribute [local go_sem] Oper.semAt_some

def fuelW (f : Int) : Int := if f ≤ 300 then f else 300
/-- What walkOf leaves. -/
def WofP (w : World) (D : WD) (vp : Value) (e : Ending) (w' : World) : Prop := ∃ vs' vo', e = .returned (.agg #[.int .i64 D.pc, vs', .int .u64 D.l0, .int .u64 D.l1, .int .u64 D.l2, .int .u64 D.l3, vo', vp, .int .i64 D.fuel]) ∧ valOwn w' w.heap.size vs' D.st ∧ valOwn w' w.heap.size vo' D.out ∧ (∀ g, vs'.ownBlock = some g → vo'.ownBlock ≠ some g) ∧ Touch w w' []

/-- A walk stored over another one. -/
abbrev wPut (w : World) (p : Nat) (D : WD) (vs vo vp : Value) : World := ((((((((w.setCell ⟨p, 0, none⟩ (.int .i64 D.pc)).setCell ⟨p, 1, none⟩ vs).setCell ⟨p, 2, none⟩ (.int .u64 D.l0)).setCell ⟨p, 3, none⟩ (.int .u64 D.l1)).setCell ⟨p, 4, none⟩ (.int .u64 D.l2)).setCell ⟨p, 5, none⟩ (.int .u64 D.l3)).setCell ⟨p, 6, none⟩ vo).setCell ⟨p, 7, none⟩ vp).setCell ⟨p, 8, none⟩ (.int .i64 D.fuel)
theorem WObj.put {w : World} {p : Nat} {T : TypeId} {tl : List Value} {D0 : WD} {v0 o0 p0 : Value} (h : WObj w p T tl v0 o0 p0 D0) (D : WD) (vs vo vp : Value) : WObj (wPut w p D vs vo vp) p T tl vs vo vp D :=
  ⟨by
    rw [heap_setCell_same _ _ _ _ _ _ (heap_setCell_same _ _ _ _ _ _ (heap_setCell_same _ _ _ _ _ _ (heap_setCell_same _ _ _ _ _ _ (heap_setCell_same _ _ _ _ _ _ (heap_setCell_same _ _ _ _ _ _ (heap_setCell_same _ _ _ _ _ _ (heap_setCell_same _ _ _ _ _ _ (heap_setCell_same _ _ _ _ _ _ h.st))))))))]
    simp⟩
theorem wPut_touch (w : World) (p : Nat) (D : WD) (vs vo vp : Value) : Touch w (wPut w p D vs vo vp) [p] := (((((((((Touch.refl w [p]).setCell (.inl (by simp)) _).setCell (.inl (by simp)) _).setCell (.inl (by simp)) _).setCell (.inl (by simp)) _).setCell (.inl (by simp)) _).setCell (.inl (by simp)) _).setCell (.inl (by simp)) _).setCell (.inl (by simp)) _).setCell (.inl (by simp)) _

set_option maxRecDepth 100000 in
set_option maxHeartbeats 2000000 in
theorem walkOf_any {w : World} {vs vo : Value} {ap : Option Addr} {np cp : Nat} {D : WD} (hs : VRow w vs D.st) (ho : VRow w vo D.out) (hsl : D.st.length ≤ 100000) (hol : D.out.length ≤ 100000) (f : Int) :
    Calls Try.prog 21 #[.slice ap np cp, stV D vs vo, .int .i64 f] w (WofP w { D with fuel := fuelW f } (.slice ap np cp)) := by
  have HC : Hid (∀ W, Touch w W [] → HidC Try.prog 34 #[stV D vs vo] W (CopP W D)) := fun W t => ⟨copied_any (SRow.keep hs t (by simp)) (SRow.keep ho t (by simp)) hsl hol⟩
  clear hs ho hsl hol
  have HT0 : Hid (Touch w ((w.alloc (.cells #[.int .i64 D.pc, vs, .int .u64 D.l0, .int .u64 D.l1, .int .u64 D.l2, .int .u64 D.l3, vo] 28)).alloc (.cells #[.int .i64 0, .slice none 0 0, .int .u64 0, .int .u64 0, .int .u64 0, .int .u64 0, .slice none 0 0, .slice none 0 0, .int .i64 0] 60)) []) := ((Touch.refl w []).alloc _).alloc _
  have HW : Hid (WObj ((w.alloc (.cells #[.int .i64 D.pc, vs, .int .u64 D.l0, .int .u64 D.l1, .int .u64 D.l2, .int .u64 D.l3, vo] 28)).alloc (.cells #[.int .i64 0, .slice none 0 0, .int .u64 0, .int .u64 0, .int .u64 0, .int .u64 0, .slice none 0 0, .slice none 0 0, .int .i64 0] 60)) (w.heap.size + 1) 60 [] (.slice none 0 0) (.slice none 0 0) (.slice none 0 0) ⟨0, [], 0, 0, 0, 0, [], 0⟩) := ⟨by
    have := heap_alloc_new (w.alloc (.cells #[.int .i64 D.pc, vs, .int .u64 D.l0, .int .u64 D.l1, .int .u64 D.l2, .int .u64 D.l3, vo] 28)) (.cells #[.int .i64 0, .slice none 0 0, .int .u64 0, .int .u64 0, .int .u64 0, .int .u64 0, .slice none 0 0, .slice none 0 0, .int .i64 0] 60)
    simpa using this⟩
  have HQS : Hid (((w.alloc (.cells #[.int .i64 D.pc, vs, .int .u64 D.l0, .int .u64 D.l1, .int .u64 D.l2, .int .u64 D.l3, vo] 28)).alloc (.cells #[.int .i64 0, .slice none 0 0, .int .u64 0, .int .u64 0, .int .u64 0, .int .u64 0, .slice none 0 0, .slice none 0 0, .int .i64 0] 60)).heap.size = w.heap.size + 2) := by show _ = _; simp
  have HM : Hid (fuelW f = if f ≤ 300 then f else 300) := rfl
  generalize fuelW f = F at *
  go_enter Try.func21, Try.ntmps21
  go_wp2_with fail
  generalize ((w.alloc (.cells #[.int .i64 D.pc, vs, .int .u64 D.l0, .int .u64 D.l1, .int .u64 D.l2, .int .u64 D.l3, vo] 28)).alloc (.cells #[.int .i64 0, .slice none 0 0, .int .u64 0, .int .u64 0, .int .u64 0, .int .u64 0, .slice none 0 0, .slice none 0 0, .int .i64 0] 60)) = Q at *
  refine (HC.out _ HT0.out).out.mono ?_
  rintro e w1 ⟨vs1, vo1, rfl, o1, o2, n1, t1⟩
  obtain ⟨sa, sc, rfl⟩ := owns_slice o1
  obtain ⟨oa, oc, rfl⟩ := owns_slice o2
  have HW1 : Hid _ := HW.out.touch t1 (by simp)
  have HFIN : Hid (∀ W', Touch w1 W' [w.heap.size + 1] → WofP w { D with fuel := F } (.slice ap np cp) (.returned (.agg #[.int .i64 D.pc, (.slice sa D.st.length sc), .int .u64 D.l0, .int .u64 D.l1, .int .u64 D.l2, .int .u64 D.l3, (.slice oa D.out.length oc), .slice ap np cp, .int .i64 F])) W') := by
    intro W' t
    have hq := HQS.out
    refine ⟨_, _, rfl, own_base (ownsRow_touch o1 t (fun g hg => by have := own_ge o1 g hg; simp; omega)) (by omega), own_base (ownsRow_touch o2 t (fun g hg => by have := own_ge o2 g hg; simp; omega)) (by omega), n1, ?_⟩
    exact (HT0.out.trans t1 (by simp)).trans t (fun x hx => .inr (by simp at hx; omega))
  clear o1 o2 n1 t1 HC HT0 HW HQS
  have c := HW1.out.cells
  obtain ⟨x0, x1, x2, x3, x4, x5, x6, x7, x8⟩ := c
  have r0 := HW1.out.fr 0
  have r1 := HW1.out.fr 1
  have r2 := HW1.out.fr 2
  have r3 := HW1.out.fr 3
  have r4 := HW1.out.fr 4
  have r5 := HW1.out.fr 5
  have r6 := HW1.out.fr 6
  have r7 := HW1.out.fr 7
  have r8 := HW1.out.fr 8
  by_cases hf : f ≤ 300
  · have hF : F = f := by rw [HM.out, if_pos hf]
    subst hF
    clear HM
    go_wp2
    have hfin := HW1.out.put { D with fuel := F } (.slice sa D.st.length sc) (.slice oa D.out.length oc) (.slice ap np cp)
    obtain ⟨z0, z1, z2, z3, z4, z5, z6, z7, z8⟩ := hfin.cells
    refine bodyPost_ret (v := .agg #[.int .i64 D.pc, (.slice sa D.st.length sc), .int .u64 D.l0, .int .u64 D.l1, .int .u64 D.l2, .int .u64 D.l3, (.slice oa D.out.length oc), .slice ap np cp, .int .i64 F]) ?_ rfl (HFIN.out _ (wPut_touch _ _ { D with fuel := F } _ _ _))
    rw [res_cell rfl]
    simp [go_sem, z0, z1, z2, z3, z4, z5, z6, z7, z8]
  · have hF : F = 300 := by rw [HM.out, if_neg hf]
    subst hF
    clear HM
    go_wp2
    have hfin := HW1.out.put { D with fuel := 300 } (.slice sa D.st.length sc) (.slice oa D.out.length oc) (.slice ap np cp)
    obtain ⟨z0, z1, z2, z3, z4, z5, z6, z7, z8⟩ := hfin.cells
    refine bodyPost_ret (v := .agg #[.int .i64 D.pc, (.slice sa D.st.length sc), .int .u64 D.l0, .int .u64 D.l1, .int .u64 D.l2, .int .u64 D.l3, (.slice oa D.out.length oc), .slice ap np cp, .int .i64 300]) ?_ rfl (HFIN.out _ (wPut_touch _ _ { D with fuel := 300 } _ _ _))
    rw [res_cell rfl]
    simp [go_sem, z0, z1, z2, z3, z4, z5, z6, z7, z8]

end Go.Proofs.Ytlndbligbpfdpaa
