/-
  package spec: Plain BY ITS CONTRACT, where it stands at an Atomic or a Halt.
-/
import Derived.Test.YtlndbligbpfdpaaSpBlock
namespace Go.Proofs.Ytlndbligbpfdpaa
set_option linter.unusedVariables false
set_option linter.unusedSimpArgs false
open Go.RowKit
attribute [local go_sem] Oper.semAt_some

set_option maxRecDepth 100000 in
set_option maxHeartbeats 1000000 in
theorem toBlock_at {w : World} {b : Nat} {T : TypeId} {tl : List Value} {vs vo : Value} {ao : Option Addr} {cap : Nat} {D : WD} {l : List InsD} (h : WObj w b T tl vs vo (.slice ao l.length cap) D) (hl : InsRow w (.slice ao l.length cap) l) (kd : Int) (hk : (opAtW l D.pc = 21 ∧ kd = 4) ∨ (opAtW l D.pc = 28 ∧ kd = 1)) :
    Calls Try.prog 38 #[.pointer (some ⟨b, 0, none⟩)] w fun e w' => e = .returned (.int .u8 kd) ∧ Touch w w' [] := by
  rcases hk with ⟨hk, rfl⟩ | ⟨hk, rfl⟩
  · have HS : HidC _ _ _ _ _ := ⟨standsAt_any h hl 21 (by omega)⟩
    rw [hk] at HS
    clear h hl hk
    go_enter Try.func38, Try.ntmps38
    go_wp2_with fail
    refine wp_loop_rounds 1 ?_
    rw [rounds_succ]
    go_wp2_with fail
    refine HS.out.mono ?_
    rintro e w1 ⟨rfl, q, rfl⟩
    go_wp2
    go_ret
    exact ⟨rfl, (Touch.refl w []).drewN _⟩
  · have HS : HidC _ _ _ _ _ := ⟨standsAt_any h hl 21 (by omega)⟩
    have HS2 : Hid (∀ q, HidC _ _ _ _ _) := fun q => ⟨standsAt_any (w := w.drewN q) (h.touch ((Touch.refl w []).drewN q) (by simp)) (SRow.keep hl ((Touch.refl w []).drewN q) (by simp)) 28 (by omega)⟩
    rw [hk] at HS
    simp only [hk] at HS2
    clear h hl hk
    go_enter Try.func38, Try.ntmps38
    go_wp2_with fail
    refine wp_loop_rounds 1 ?_
    rw [rounds_succ]
    go_wp2_with fail
    refine HS.out.mono ?_
    rintro e w1 ⟨rfl, q, rfl⟩
    go_wp2_with fail
    refine (HS2.out q).out.mono ?_
    rintro e w1 ⟨rfl, q2, rfl⟩
    go_wp2
    go_ret
    exact ⟨rfl, (Touch.refl w []).drewN _⟩

def PlnP (w : World) (kd : Int) (D : WD) (e : Ending) (w' : World) : Prop := ∃ sa sc oa oc, e = .returned (.agg (outA kd D (.slice sa D.st.length sc) (.slice oa D.out.length oc) (.slice none 0 0) (.slice none 0 0) 0)) ∧ VRow w' (.slice sa D.st.length sc) D.st ∧ VRow w' (.slice oa D.out.length oc) D.out ∧ Touch w w' [] ∧ FrA w (.slice sa D.st.length sc) ∧ FrA w (.slice oa D.out.length oc)
set_option maxRecDepth 100000 in
set_option maxHeartbeats 2000000 in
theorem plain_at {w : World} {vs vo : Value} {ap : Option Addr} {cp : Nat} {l : List InsD} {D : WD} (hs : VRow w vs D.st) (ho : VRow w vo D.out) (hl : InsRow w (.slice ap l.length cp) l) (hsl : D.st.length ≤ 1000) (hol : D.out.length ≤ 1000) (f : Int) (kd : Int) (hk : (opAtW l D.pc = 21 ∧ kd = 4) ∨ (opAtW l D.pc = 28 ∧ kd = 1)) :
    Calls Try.prog 20 #[.slice ap l.length cp, stV D vs vo, .int .i64 f] w (PlnP w kd D) := by
  have tQ : Touch w ((w.alloc (.cells #[.int .i64 D.pc, vs, .int .u64 D.l0, .int .u64 D.l1, .int .u64 D.l2, .int .u64 D.l3, vo] 28)).alloc (.cells (outA 0 zWD (.slice none 0 0) (.slice none 0 0) (.slice none 0 0) (.slice none 0 0) 0) 41)) [] := ((Touch.refl w []).alloc _).alloc _
  have hQb : StB ((w.alloc (.cells #[.int .i64 D.pc, vs, .int .u64 D.l0, .int .u64 D.l1, .int .u64 D.l2, .int .u64 D.l3, vo] 28)).alloc (.cells (outA 0 zWD (.slice none 0 0) (.slice none 0 0) (.slice none 0 0) (.slice none 0 0) 0) 41)) w.heap.size D vs vo := StB.touch (⟨heap_alloc_new w _⟩ : StB (w.alloc (.cells #[.int .i64 D.pc, vs, .int .u64 D.l0, .int .u64 D.l1, .int .u64 D.l2, .int .u64 D.l3, vo] 28)) w.heap.size D vs vo) ((Touch.refl _ []).alloc _) (by simp)
  have hQr : OutB ((w.alloc (.cells #[.int .i64 D.pc, vs, .int .u64 D.l0, .int .u64 D.l1, .int .u64 D.l2, .int .u64 D.l3, vo] 28)).alloc (.cells (outA 0 zWD (.slice none 0 0) (.slice none 0 0) (.slice none 0 0) (.slice none 0 0) 0) 41)) (w.heap.size + 1) (outA 0 zWD (.slice none 0 0) (.slice none 0 0) (.slice none 0 0) (.slice none 0 0) 0) := ⟨by
    have := heap_alloc_new (w.alloc (.cells #[.int .i64 D.pc, vs, .int .u64 D.l0, .int .u64 D.l1, .int .u64 D.l2, .int .u64 D.l3, vo] 28)) (.cells (outA 0 zWD (.slice none 0 0) (.slice none 0 0) (.slice none 0 0) (.slice none 0 0) 0) 41)
    simpa using this⟩
  have HQS : Hid (((w.alloc (.cells #[.int .i64 D.pc, vs, .int .u64 D.l0, .int .u64 D.l1, .int .u64 D.l2, .int .u64 D.l3, vo] 28)).alloc (.cells (outA 0 zWD (.slice none 0 0) (.slice none 0 0) (.slice none 0 0) (.slice none 0 0) 0) 41)).heap.size = w.heap.size + 2) := by show _ = _; simp
  have HWO : Hid (∀ W, Touch w W [] → HidC Try.prog 21 #[.slice ap l.length cp, stV D vs vo, .int .i64 f] W (WofP W { D with fuel := fuelW f } (.slice ap l.length cp))) := fun W t => ⟨walkOf_any (SRow.keep hs t (by simp)) (SRow.keep ho t (by simp)) (by omega) (by omega) f⟩
  have HTR : Hid (∀ (W : World) b vs1 vo1, Touch w W [] → WObj W b 60 [] vs1 vo1 (.slice ap l.length cp) { D with fuel := fuelW f } → HidC Try.prog 22 #[.func (.func 38) #[.pointer (some ⟨b, 0, none⟩)] #[]] W (fun e w' => e = .returned (.tuple #[.int .u8 kd, .int .i64 0]) ∧ Touch W w' [])) := fun W b vs1 vo1 t o => ⟨by
    refine (triedS_ok _ _ _ kd W [] (by simp) (fun _ _ => True) (fun w1 => enter_of Try.func38 (by kernel_rfl) (by kernel_rfl) w1) (fun w1 t1 _ => ?_)).mono ?_
    · refine (toBlock_at (D := { D with fuel := fuelW f }) (o.touch t1 (by simp)) (SRow.keep hl (t.trans t1 (by simp)) (by simp)) kd hk).mono ?_
      rintro e w' ⟨rfl, t'⟩
      exact ⟨rfl, t', trivial⟩
    · rintro e w' ⟨rfl, w1, w2, t1, t2, _, t3⟩
      exact ⟨rfl, (t1.trans t2 (by simp)).trans t3 (fun x hx => .inr (by simp at hx; omega))⟩⟩
  have HTQ : Hid _ := tQ
  have HQR : Hid _ := hQr
  obtain ⟨x0, x1, x2, x3, x4, x5, x6⟩ := hQb.cells
  generalize hF : fuelW f = F at *
  clear hs ho hl hsl hol hk tQ hQb hQr hF
  go_enter Try.func20, Try.ntmps20
  go_wp2_with fail
  generalize ((w.alloc (.cells #[.int .i64 D.pc, vs, .int .u64 D.l0, .int .u64 D.l1, .int .u64 D.l2, .int .u64 D.l3, vo] 28)).alloc (.cells (outA 0 zWD (.slice none 0 0) (.slice none 0 0) (.slice none 0 0) (.slice none 0 0) 0) 41)) = Q at *
  refine (HWO.out _ HTQ.out).out.mono ?_
  rintro e w1 ⟨vs1, vo1, rfl, o1, u1, n1, t1⟩
  obtain ⟨sa, sc, rfl⟩ := owns_slice o1
  obtain ⟨oa, oc, rfl⟩ := owns_slice u1
  have tC : Touch w1 (w1.alloc (.cells #[.int .i64 D.pc, .slice sa D.st.length sc, .int .u64 D.l0, .int .u64 D.l1, .int .u64 D.l2, .int .u64 D.l3, .slice oa D.out.length oc, .slice ap l.length cp, .int .i64 F] 60)) [] := (Touch.refl w1 []).alloc _
  have HWK : Hid (WObj (w1.alloc (.cells #[.int .i64 D.pc, .slice sa D.st.length sc, .int .u64 D.l0, .int .u64 D.l1, .int .u64 D.l2, .int .u64 D.l3, .slice oa D.out.length oc, .slice ap l.length cp, .int .i64 F] 60)) w1.heap.size 60 [] (.slice sa D.st.length sc) (.slice oa D.out.length oc) (.slice ap l.length cp) { D with fuel := F }) := ⟨heap_alloc_new w1 _⟩
  have HT1 : Hid (Touch w (w1.alloc (.cells #[.int .i64 D.pc, .slice sa D.st.length sc, .int .u64 D.l0, .int .u64 D.l1, .int .u64 D.l2, .int .u64 D.l3, .slice oa D.out.length oc, .slice ap l.length cp, .int .i64 F] 60)) []) := HTQ.out.trans (t1.trans tC (by simp)) (by simp)
  have HTS : Hid (Touch Q (w1.alloc (.cells #[.int .i64 D.pc, .slice sa D.st.length sc, .int .u64 D.l0, .int .u64 D.l1, .int .u64 D.l2, .int .u64 D.l3, .slice oa D.out.length oc, .slice ap l.length cp, .int .i64 F] 60)) []) := t1.trans tC (by simp)
  have HR1 : Hid (valOwn (w1.alloc (.cells #[.int .i64 D.pc, .slice sa D.st.length sc, .int .u64 D.l0, .int .u64 D.l1, .int .u64 D.l2, .int .u64 D.l3, .slice oa D.out.length oc, .slice ap l.length cp, .int .i64 F] 60)) Q.heap.size (.slice sa D.st.length sc) D.st) := ownsRow_touch o1 tC (by simp)
  have HR2 : Hid (valOwn (w1.alloc (.cells #[.int .i64 D.pc, .slice sa D.st.length sc, .int .u64 D.l0, .int .u64 D.l1, .int .u64 D.l2, .int .u64 D.l3, .slice oa D.out.length oc, .slice ap l.length cp, .int .i64 F] 60)) Q.heap.size (.slice oa D.out.length oc) D.out) := ownsRow_touch u1 tC (by simp)
  clear HWO x0 x1 x2 x3 x4 x5 x6 tC t1 o1 u1 n1
  go_wp2_with fail
  generalize (w1.alloc (.cells #[.int .i64 D.pc, .slice sa D.st.length sc, .int .u64 D.l0, .int .u64 D.l1, .int .u64 D.l2, .int .u64 D.l3, .slice oa D.out.length oc, .slice ap l.length cp, .int .i64 F] 60)) = Q2 at *
  generalize w1.heap.size = b at *
  refine (HTR.out _ _ _ _ HT1.out HWK.out).out.mono ?_
  rintro e w2 ⟨rfl, t2⟩
  have hc := (HWK.out.touch t2 (by simp)).cells
  obtain ⟨y0, y1, y2, y3, y4, y5, y6, y7, y8⟩ := hc
  have hr := HQR.out.touch (HTS.out.trans t2 (by simp)) (by simp)
  have HR3 : Hid _ := hr
  have HT2 : Hid _ := HT1.out.trans t2 (by simp)
  have HR12 : Hid _ := ownsRow_touch HR1.out t2 (by simp)
  have HR22 : Hid _ := ownsRow_touch HR2.out t2 (by simp)
  have g0 := hr.fr 0
  have k0 := hr.cell 0
  have g1 := hr.fr 1
  have k1 := hr.cell 1
  have g2 := hr.fr 2
  have k2 := hr.cell 2
  have g3 := hr.fr 3
  have k3 := hr.cell 3
  have g4 := hr.fr 4
  have k4 := hr.cell 4
  have g5 := hr.fr 5
  have k5 := hr.cell 5
  have g6 := hr.fr 6
  have k6 := hr.cell 6
  have g7 := hr.fr 7
  have k7 := hr.cell 7
  have g8 := hr.fr 8
  have k8 := hr.cell 8
  have g9 := hr.fr 9
  have k9 := hr.cell 9
  have g10 := hr.fr 10
  have k10 := hr.cell 10
  simp at k0 k1 k2 k3 k4 k5 k6 k7 k8 k9 k10
  clear t2 HR1 HR2 HWK HTR HT1 HTS hr
  go_wp2
  have hb2 := HR3.out.put kd D (.slice sa D.st.length sc) (.slice oa D.out.length oc) (.slice none 0 0) (.slice none 0 0) 0
  have t3 := outPut_touch w2 (w.heap.size + 1) kd D (.slice sa D.st.length sc) (.slice oa D.out.length oc) (.slice none 0 0) (.slice none 0 0) 0
  refine bodyPost_ret (v := .agg (outA kd D (.slice sa D.st.length sc) (.slice oa D.out.length oc) (.slice none 0 0) (.slice none 0 0) 0)) ?_ rfl ⟨sa, sc, oa, oc, rfl, vrow_of (ownsRow_touch HR12.out t3 (fun g hg => by have := own_ge HR12.out g hg; have := HQS.out; simp; omega)), vrow_of (ownsRow_touch HR22.out t3 (fun g hg => by have := own_ge HR22.out g hg; have := HQS.out; simp; omega)), HT2.out.trans t3 (fun x hx => .inr (by simp at hx; omega)), fun g hg => by have := own_ge HR12.out g hg; have := HQS.out; omega, fun g hg => by have := own_ge HR22.out g hg; have := HQS.out; omega⟩
  rw [res_cell rfl]
  have p0 := hb2.cell 0
  have p1 := hb2.cell 1
  have p2 := hb2.cell 2
  have p3 := hb2.cell 3
  have p4 := hb2.cell 4
  have p5 := hb2.cell 5
  have p6 := hb2.cell 6
  have p7 := hb2.cell 7
  have p8 := hb2.cell 8
  have p9 := hb2.cell 9
  have p10 := hb2.cell 10
  simp only [outA, List.getElem?_toArray, List.getElem?_cons_zero, List.getElem?_cons_succ] at p0 p1 p2 p3 p4 p5 p6 p7 p8 p9 p10
  simp [go_sem, p0, p1, p2, p3, p4, p5, p6, p7, p8, p9, p10]

end Go.Proofs.Ytlndbligbpfdpaa
