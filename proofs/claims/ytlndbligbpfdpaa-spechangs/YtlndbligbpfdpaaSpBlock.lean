/-
  package spec: Block BY ITS CONTRACT. Written by mkblock.py.
-/
import Derived.Test.YtlndbligbpfdpaaSpTrd
namespace Go.Proofs.Ytlndbligbpfdpaa
set_option linter.unusedVariables false
set_option linter.unusedSimpArgs false
open Go.RowKit
attribute [local go_sem] Oper.semAt_some

/-- A value's block is new. -/
def FrA (w : World) (v : Value) : Prop := ∀ g, v.ownBlock = some g → w.heap.size ≤ g
/-- As BlkP, and the rows lie in new blocks. -/
def BlkF (w : World) (r : Int × BX) (D : WD) (h : List Int) (e : Ending) (w' : World) : Prop :=
  (r.1 = 0 ∧ ∃ vs vo vh va, e = .returned (.agg (outA 1 r.2.D vs vo vh va 0)) ∧ VRow w' vs r.2.D.st ∧ VRow w' vo r.2.D.out ∧ VRow w' vh r.2.h ∧ SRow 1 bcell w' va r.2.arms ∧ Touch w w' [] ∧ FrA w vs ∧ FrA w vo ∧ FrA w vh ∧ FrA w va) ∨
  (r.1 ≠ 0 ∧ ∃ vs vo vh, e = .returned (.agg (outA (if r.1 = -1 then 2 else 3) D vs vo vh (.slice none 0 0) (if r.1 = -1 then 0 else r.1))) ∧ VRow w' vs D.st ∧ VRow w' vo D.out ∧ VRow w' vh h ∧ Touch w w' [] ∧ FrA w vs ∧ FrA w vo ∧ FrA w vh)
theorem BlkF.p {w : World} {r : Int × BX} {D : WD} {h : List Int} {e : Ending} {w' : World} (k : BlkF w r D h e w') : BlkP w r D h e w' := by
  rcases k with ⟨h0, vs, vo, vh, va, e1, r1, r2, r3, r4, t, _⟩ | ⟨h0, vs, vo, vh, e1, r1, r2, r3, t, _⟩
  · exact .inl ⟨h0, vs, vo, vh, va, e1, r1, r2, r3, r4, t⟩
  · exact .inr ⟨h0, vs, vo, vh, e1, r1, r2, r3, t⟩

set_option maxRecDepth 100000 in
set_option maxHeartbeats 4000000 in
theorem block_fresh {w : World} {vs vo : Value} {ap : Option Addr} {cp : Nat} {l : List InsD} {D : WD} {ah : Option Addr} {ch : Nat} {h : List Int} (hs : VRow w vs D.st) (ho : VRow w vo D.out) (hh : VRow w (.slice ah h.length ch) h) (hl : InsRow w (.slice ap l.length cp) l) (hll : l.length ≤ 1000) (hlw : ∀ i ∈ l, i.Wf) (hS : SWf D h) (f : Int) :
    Calls Try.prog 15 #[.slice ap l.length cp, stV D vs vo, .slice ah h.length ch, .int .i64 f] w (BlkF w (outX l D h f) D h) := by
  have tQ : Touch w ((w.alloc (.cells #[.int .i64 D.pc, vs, .int .u64 D.l0, .int .u64 D.l1, .int .u64 D.l2, .int .u64 D.l3, vo] 28)).alloc (.cells (outA 0 zWD (.slice none 0 0) (.slice none 0 0) (.slice none 0 0) (.slice none 0 0) 0) 41)) [] := ((Touch.refl w []).alloc _).alloc _
  have hQs : ((w.alloc (.cells #[.int .i64 D.pc, vs, .int .u64 D.l0, .int .u64 D.l1, .int .u64 D.l2, .int .u64 D.l3, vo] 28)).alloc (.cells (outA 0 zWD (.slice none 0 0) (.slice none 0 0) (.slice none 0 0) (.slice none 0 0) 0) 41)).heap.size = w.heap.size + 2 := by simp
  have hQb : StB ((w.alloc (.cells #[.int .i64 D.pc, vs, .int .u64 D.l0, .int .u64 D.l1, .int .u64 D.l2, .int .u64 D.l3, vo] 28)).alloc (.cells (outA 0 zWD (.slice none 0 0) (.slice none 0 0) (.slice none 0 0) (.slice none 0 0) 0) 41)) w.heap.size D vs vo := StB.touch (⟨heap_alloc_new w _⟩ : StB (w.alloc (.cells #[.int .i64 D.pc, vs, .int .u64 D.l0, .int .u64 D.l1, .int .u64 D.l2, .int .u64 D.l3, vo] 28)) w.heap.size D vs vo) ((Touch.refl _ []).alloc _) (by simp)
  have hQr : OutB ((w.alloc (.cells #[.int .i64 D.pc, vs, .int .u64 D.l0, .int .u64 D.l1, .int .u64 D.l2, .int .u64 D.l3, vo] 28)).alloc (.cells (outA 0 zWD (.slice none 0 0) (.slice none 0 0) (.slice none 0 0) (.slice none 0 0) 0) 41)) (w.heap.size + 1) (outA 0 zWD (.slice none 0 0) (.slice none 0 0) (.slice none 0 0) (.slice none 0 0) 0) := ⟨by
    have := heap_alloc_new (w.alloc (.cells #[.int .i64 D.pc, vs, .int .u64 D.l0, .int .u64 D.l1, .int .u64 D.l2, .int .u64 D.l3, vo] 28)) (.cells (outA 0 zWD (.slice none 0 0) (.slice none 0 0) (.slice none 0 0) (.slice none 0 0) 0) 41)
    simpa using this⟩
  have HWO : Hid (∀ W, Touch w W [] → HidC Try.prog 21 #[.slice ap l.length cp, stV D vs vo, .int .i64 f] W (WofP W { D with fuel := fuelW f } (.slice ap l.length cp))) := fun W t => ⟨walkOf_any (SRow.keep hs t (by simp)) (SRow.keep ho t (by simp)) (by have := hS.st; omega) (by have := hS.out; omega) f⟩
  have HCL : Hid (∀ W, Touch w W [] → HidC Try.prog 32 #[.slice ah h.length ch] W (PushP W h)) := fun W t => ⟨sclone_any (SRow.keep hh t (by simp)) (by have := hS.hl; omega)⟩
  have HCP : Hid (∀ W, Touch w W [] → HidC Try.prog 34 #[stV D vs vo] W (CopP W D)) := fun W t => ⟨copied_any (SRow.keep hs t (by simp)) (SRow.keep ho t (by simp)) (by have := hS.st; omega) (by have := hS.out; omega)⟩
  have HTR : Hid (∀ (W : World) b vs1 vo1 vh1, Touch w W [] → WObj W b 75 [vh1, .slice none 0 0, .slice none 0 0] vs1 vo1 (.slice ap l.length cp) { D with fuel := fuelW f } → valOwn W 0 vs1 D.st → valOwn W 0 vo1 D.out → valOwn W 0 vh1 h → (b :: (ob vs1 ++ (ob vo1 ++ ob vh1))).Nodup → (∀ x ∈ b :: (ob vs1 ++ (ob vo1 ++ ob vh1)), w.heap.size ≤ x) → HidC Try.prog 22 #[.func (.func 33) #[.pointer (some ⟨b, 0, none⟩)] #[]] W (TrdP W b (b :: (ob vs1 ++ (ob vo1 ++ ob vh1))) (.slice ap l.length cp) (outX l D h f))) := fun W b vs1 vo1 vh1 t o s u p nd hge =>
    ⟨trd_any (D := { D with fuel := fuelW f }) o s u p nd (fun W' t' => SRow.keep hl (t.trans t' (fun x hx => .inr (hge x hx))) (by simp)) hll hlw (hS.fuel _) (by show fuelW f ≤ 300; unfold fuelW; split <;> omega)⟩
  have HTQ : Hid _ := tQ
  have HQS : Hid _ := hQs
  have HQB : Hid _ := hQb
  have HQR : Hid _ := hQr
  obtain ⟨x0, x1, x2, x3, x4, x5, x6⟩ := hQb.cells
  generalize outX l D h f = r at *
  generalize hF : fuelW f = F at *
  clear hs ho hh hl hll hlw hS tQ hQs hQb hQr hF
  go_enter Try.func15, Try.ntmps15
  go_wp2_with fail
  generalize ((w.alloc (.cells #[.int .i64 D.pc, vs, .int .u64 D.l0, .int .u64 D.l1, .int .u64 D.l2, .int .u64 D.l3, vo] 28)).alloc (.cells (outA 0 zWD (.slice none 0 0) (.slice none 0 0) (.slice none 0 0) (.slice none 0 0) 0) 41)) = Q at *
  refine (HWO.out _ HTQ.out).out.mono ?_
  rintro e w1 ⟨vs1, vo1, rfl, o1, u1, n1, t1⟩
  obtain ⟨sa, sc, rfl⟩ := owns_slice o1
  obtain ⟨oa, oc, rfl⟩ := owns_slice u1
  have HT1 : Hid (Touch w w1 []) := HTQ.out.trans t1 (by simp)
  clear HWO x0 x1 x2 x3 x4 x5 x6
  go_wp2_with fail
  refine (HCL.out _ HT1.out).out.mono ?_
  rintro e w2 ⟨vh1, rfl, p1, t2⟩
  obtain ⟨ha, hc, rfl⟩ := owns_slice p1
  have hq := HQS.out
  have hs1 := t1.size
  have hs2 := t2.size
  have tC : Touch w2 (w2.alloc (.cells #[.int .i64 D.pc, .slice sa D.st.length sc, .int .u64 D.l0, .int .u64 D.l1, .int .u64 D.l2, .int .u64 D.l3, .slice oa D.out.length oc, .slice ap l.length cp, .int .i64 F, .slice ha h.length hc, .slice none 0 0, .slice none 0 0] 75)) [] := (Touch.refl w2 []).alloc _
  have t12 : Touch w1 (w2.alloc (.cells #[.int .i64 D.pc, .slice sa D.st.length sc, .int .u64 D.l0, .int .u64 D.l1, .int .u64 D.l2, .int .u64 D.l3, .slice oa D.out.length oc, .slice ap l.length cp, .int .i64 F, .slice ha h.length hc, .slice none 0 0, .slice none 0 0] 75)) [] := t2.trans tC (by simp)
  have hge1 : ∀ x ∈ ob (.slice sa D.st.length sc), Q.heap.size ≤ x ∧ x < w1.heap.size := fun x hx => ⟨own_ge o1 x (mem_ob.1 hx), own_lt o1 x (mem_ob.1 hx)⟩
  have hge2 : ∀ x ∈ ob (.slice oa D.out.length oc), Q.heap.size ≤ x ∧ x < w1.heap.size := fun x hx => ⟨own_ge u1 x (mem_ob.1 hx), own_lt u1 x (mem_ob.1 hx)⟩
  have hge3 : ∀ x ∈ ob (.slice ha h.length hc), w1.heap.size ≤ x ∧ x < w2.heap.size := fun x hx => ⟨own_ge p1 x (mem_ob.1 hx), own_lt p1 x (mem_ob.1 hx)⟩
  have hnd : (w2.heap.size :: (ob (.slice sa D.st.length sc) ++ (ob (.slice oa D.out.length oc) ++ ob (.slice ha h.length hc)))).Nodup := by
    simp only [List.nodup_cons, List.mem_append, not_or]
    refine ⟨⟨fun hx => by have := hge1 _ hx; omega, fun hx => by have := hge2 _ hx; omega, fun hx => by have := hge3 _ hx; omega⟩, ?_⟩
    rw [List.nodup_append]
    refine ⟨ob_nodup _, ?_, fun a ha b hb e => ?_⟩
    · rw [List.nodup_append]
      exact ⟨ob_nodup _, ob_nodup _, fun a ha b hb e => by have := hge2 a ha; have := hge3 b hb; omega⟩
    · subst e
      rcases List.mem_append.1 hb with q | q
      · exact n1 a (mem_ob.1 ha) (mem_ob.1 q)
      · have := hge1 a ha; have := hge3 a q; omega
  have hgeS : ∀ x ∈ w2.heap.size :: (ob (.slice sa D.st.length sc) ++ (ob (.slice oa D.out.length oc) ++ ob (.slice ha h.length hc))), w.heap.size + 2 ≤ x := by
    intro x hx
    simp only [List.mem_cons, List.mem_append] at hx
    rcases hx with rfl | hx | hx | hx
    · omega
    · have := hge1 x hx; omega
    · have := hge2 x hx; omega
    · have := hge3 x hx; omega
  have HT3 : Hid (Touch w (w2.alloc (.cells #[.int .i64 D.pc, .slice sa D.st.length sc, .int .u64 D.l0, .int .u64 D.l1, .int .u64 D.l2, .int .u64 D.l3, .slice oa D.out.length oc, .slice ap l.length cp, .int .i64 F, .slice ha h.length hc, .slice none 0 0, .slice none 0 0] 75)) []) := HT1.out.trans t12 (by simp)
  have HTRD := HTR.out (w2.alloc (.cells #[.int .i64 D.pc, .slice sa D.st.length sc, .int .u64 D.l0, .int .u64 D.l1, .int .u64 D.l2, .int .u64 D.l3, .slice oa D.out.length oc, .slice ap l.length cp, .int .i64 F, .slice ha h.length hc, .slice none 0 0, .slice none 0 0] 75)) w2.heap.size (.slice sa D.st.length sc) (.slice oa D.out.length oc) (.slice ha h.length hc) HT3.out ⟨heap_alloc_new w2 _⟩ (own_base (ownsRow_touch o1 t12 (by simp)) (Nat.zero_le _)) (own_base (ownsRow_touch u1 t12 (by simp)) (Nat.zero_le _)) (own_base (ownsRow_touch p1 tC (by simp)) (Nat.zero_le _)) hnd (fun x hx => by have := hgeS x hx; omega)
  have HS3 : Hid (w.heap.size + 2 ≤ (w2.alloc (.cells #[.int .i64 D.pc, .slice sa D.st.length sc, .int .u64 D.l0, .int .u64 D.l1, .int .u64 D.l2, .int .u64 D.l3, .slice oa D.out.length oc, .slice ap l.length cp, .int .i64 F, .slice ha h.length hc, .slice none 0 0, .slice none 0 0] 75)).heap.size) := by show _ ≤ _; have := t1.size; have := t12.size; omega
  have HB3 : Hid (StB (w2.alloc (.cells #[.int .i64 D.pc, .slice sa D.st.length sc, .int .u64 D.l0, .int .u64 D.l1, .int .u64 D.l2, .int .u64 D.l3, .slice oa D.out.length oc, .slice ap l.length cp, .int .i64 F, .slice ha h.length hc, .slice none 0 0, .slice none 0 0] 75)) w.heap.size D vs vo) := HQB.out.touch (t1.trans t12 (by simp)) (by simp)
  have HR3 : Hid (OutB (w2.alloc (.cells #[.int .i64 D.pc, .slice sa D.st.length sc, .int .u64 D.l0, .int .u64 D.l1, .int .u64 D.l2, .int .u64 D.l3, .slice oa D.out.length oc, .slice ap l.length cp, .int .i64 F, .slice ha h.length hc, .slice none 0 0, .slice none 0 0] 75)) (w.heap.size + 1) (outA 0 zWD (.slice none 0 0) (.slice none 0 0) (.slice none 0 0) (.slice none 0 0) 0)) := HQR.out.touch (t1.trans t12 (by simp)) (by simp)
  generalize hSL : w2.heap.size :: (ob (.slice sa D.st.length sc) ++ (ob (.slice oa D.out.length oc) ++ ob (.slice ha h.length hc))) = SL at *
  have HGS : Hid _ := hgeS
  clear o1 u1 n1 t1 p1 t2 tC t12 hge1 hge2 hge3 hnd hgeS hSL hs1 hs2 HTR HQB HQR
  go_wp2_with fail
  refine HTRD.out.mono ?_
  rintro e w4 (⟨h0, rfl, L, vs4, vo4, vh4, vl4, va4, N4, hL, k4, t4, hN4⟩ | ⟨h0, rfl, t4⟩)
  · have HN4 : Hid (w.heap.size + 2 ≤ N4) := by
      show _ ≤ _
      have h1 := HT3.out.size
      have h2 : w.heap.size + 2 ≤ (w2.alloc (.cells #[.int .i64 D.pc, .slice sa D.st.length sc, .int .u64 D.l0, .int .u64 D.l1, .int .u64 D.l2, .int .u64 D.l3, .slice oa D.out.length oc, .slice ap l.length cp, .int .i64 F, .slice ha h.length hc, .slice none 0 0, .slice none 0 0] 75)).heap.size := HS3.out
      omega
    clear hN4
    obtain ⟨sa4, sc4, rfl⟩ := owns_slice k4.s
    obtain ⟨oa4, oc4, rfl⟩ := owns_slice k4.u
    obtain ⟨ha4, hc4, rfl⟩ := owns_slice k4.hp
    obtain ⟨aa4, ac4, rfl⟩ := owns_slice k4.ar
    have HT4 : Hid (Touch w w4 []) := HT3.out.trans t4 (fun x hx => .inr (by have := HGS.out x hx; omega))
    have hr4 := HR3.out.touch t4 (fun hx => by have := HGS.out _ hx; omega)
    have HR4 : Hid _ := hr4
    have HFIN : Hid (∀ W', Touch w4 W' [w.heap.size + 1] → BlkF w r D h (.returned (.agg (outA 1 r.2.D (.slice sa4 r.2.D.st.length sc4) (.slice oa4 r.2.D.out.length oc4) (.slice ha4 r.2.h.length hc4) (.slice aa4 r.2.arms.length ac4) 0))) W') := fun W' t => by
      have hnot : ∀ i, ∀ x ∈ comp w2.heap.size (.slice sa4 r.2.D.st.length sc4) (.slice oa4 r.2.D.out.length oc4) (.slice ha4 r.2.h.length hc4) vl4 (.slice aa4 r.2.arms.length ac4) (ftL L) i, x ∉ [w.heap.size + 1] := fun i x hx hm => by
        rw [List.mem_singleton] at hm
        subst hm
        rcases k4.ge i _ hx with q | q
        · have := HGS.out _ q; omega
        · exact absurd q (by show ¬ N4 ≤ w.heap.size + 1; have := HN4.out; omega)
      have kk := k4.else t hnot
      have hfr : ∀ i, ∀ x ∈ comp w2.heap.size (.slice sa4 r.2.D.st.length sc4) (.slice oa4 r.2.D.out.length oc4) (.slice ha4 r.2.h.length hc4) vl4 (.slice aa4 r.2.arms.length ac4) (ftL L) i, w.heap.size ≤ x := fun i x hx => by
        rcases k4.ge i _ hx with q | q
        · have := HGS.out _ q; omega
        · have q' : N4 ≤ x := q
          have := HN4.out; omega
      refine .inl ⟨h0, _, _, _, _, rfl, vrow_of kk.s, vrow_of kk.u, vrow_of kk.hp, ?_, HT4.out.trans t (fun x hx => .inr (by simp at hx; omega)), fun g hg => hfr 1 g (mem_ob.2 hg), fun g hg => hfr 2 g (mem_ob.2 hg), fun g hg => hfr 3 g (mem_ob.2 hg), fun g hg => hfr 5 g (mem_ob.2 hg)⟩
      have ha := kk.ar
      refine srow_of (cells := bcell) (n := 1) (fun _ => rfl) (B := 0) (e := 4) ?_
      have e1 : r.2.arms.flatMap bcell = r.2.arms.map Value.bool := by
        induction r.2.arms with
        | nil => rfl
        | cons x l ih => rw [List.flatMap_cons, ih]; rfl
      rw [e1]
      exact ha
    have c := k4.o.cells
    have c9 := k4.c9
    have tP : ∀ W', Touch w4 W' [w.heap.size + 1] → BObj W' w2.heap.size (N4, SL) (.slice ap l.length cp) r.2.D r.2.h L r.2.arms (.slice sa4 r.2.D.st.length sc4) (.slice oa4 r.2.D.out.length oc4) (.slice ha4 r.2.h.length hc4) vl4 (.slice aa4 r.2.arms.length ac4) := fun W' t => k4.else t (fun i x hx hm => by
        rw [List.mem_singleton] at hm
        subst hm
        rcases k4.ge i _ hx with q | q
        · have := HGS.out _ q; omega
        · exact absurd q (by show ¬ N4 ≤ w.heap.size + 1; have := HN4.out; omega))
    have HTP : Hid _ := tP
    generalize w2.heap.size = b4 at *
    have sA := (fun (W' : World) (k : BObj W' b4 (N4, SL) (.slice ap l.length cp) r.2.D r.2.h L r.2.arms (.slice sa4 r.2.D.st.length sc4) (.slice oa4 r.2.D.out.length oc4) (.slice ha4 r.2.h.length hc4) vl4 (.slice aa4 r.2.arms.length ac4)) => (⟨⟨k.o.cells.c0, k.o.cells.c1, k.o.cells.c2, k.o.cells.c3, k.o.cells.c4, k.o.cells.c5, k.o.cells.c6⟩, k.c9.1, k.c9.2.2⟩ : (W'.cell? ⟨b4, 0, none⟩ = some (.int .i64 r.2.D.pc) ∧ W'.cell? ⟨b4, 1, none⟩ = some (.slice sa4 r.2.D.st.length sc4) ∧ W'.cell? ⟨b4, 2, none⟩ = some (.int .u64 r.2.D.l0) ∧ W'.cell? ⟨b4, 3, none⟩ = some (.int .u64 r.2.D.l1) ∧ W'.cell? ⟨b4, 4, none⟩ = some (.int .u64 r.2.D.l2) ∧ W'.cell? ⟨b4, 5, none⟩ = some (.int .u64 r.2.D.l3) ∧ W'.cell? ⟨b4, 6, none⟩ = some (.slice oa4 r.2.D.out.length oc4)) ∧ W'.cell? ⟨b4, 9, none⟩ = some (.slice ha4 r.2.h.length hc4) ∧ W'.cell? ⟨b4, 11, none⟩ = some (.slice aa4 r.2.arms.length ac4)))
    have sB := sA _ (tP _ ((outPut_touch w4 (w.heap.size + 1) 1 r.2.D (.slice sa4 r.2.D.st.length sc4) (.slice oa4 r.2.D.out.length oc4) (.slice ha4 r.2.h.length hc4) (.slice aa4 r.2.arms.length ac4) 0).drew))
    replace sA := sA _ (k4.touch ((Touch.refl w4 []).drew))
    have q0 := hr4.cell 0
    have q1 := hr4.cell 1
    have q2 := hr4.cell 2
    have q3 := hr4.cell 3
    have q4 := hr4.cell 4
    have q5 := hr4.cell 5
    have q6 := hr4.cell 6
    have q7 := hr4.cell 7
    have q8 := hr4.cell 8
    have q9 := hr4.cell 9
    have q10 := hr4.cell 10
    simp at q0 q1 q2 q3 q4 q5 q6 q7 q8 q9 q10
    have g0 := hr4.fr 0
    have g1 := hr4.fr 1
    have g2 := hr4.fr 2
    have g3 := hr4.fr 3
    have g4 := hr4.fr 4
    have g5 := hr4.fr 5
    have g6 := hr4.fr 6
    have g7 := hr4.fr 7
    have g8 := hr4.fr 8
    have g9 := hr4.fr 9
    have g10 := hr4.fr 10
    clear k4 t4 tP hr4 c c9 hL HTRD
    generalize r.2.D = D4 at *
    generalize D4.st.length = ns4 at *
    generalize D4.out.length = no4 at *
    generalize r.2.h.length = nh4 at *
    generalize r.2.arms.length = na4 at *
    go_wp2_with fail
    refine wp_region_held_drew (S := (fun W : World => (W.cell? ⟨b4, 0, none⟩ = some (.int .i64 D4.pc) ∧ W.cell? ⟨b4, 1, none⟩ = some (.slice sa4 ns4 sc4) ∧ W.cell? ⟨b4, 2, none⟩ = some (.int .u64 D4.l0) ∧ W.cell? ⟨b4, 3, none⟩ = some (.int .u64 D4.l1) ∧ W.cell? ⟨b4, 4, none⟩ = some (.int .u64 D4.l2) ∧ W.cell? ⟨b4, 5, none⟩ = some (.int .u64 D4.l3) ∧ W.cell? ⟨b4, 6, none⟩ = some (.slice oa4 no4 oc4)) ∧ W.cell? ⟨b4, 9, none⟩ = some (.slice ha4 nh4 hc4) ∧ W.cell? ⟨b4, 11, none⟩ = some (.slice aa4 na4 ac4))) (by kernel_rfl) sA (fun hHeld => ?_)
    try simp only [Act.put, List.getElem_toArray, List.getElem_cons_succ, List.getElem_cons_zero, List.setIfInBounds_toArray, List.set_cons_zero, List.set_cons_succ]
    refine wpAnyH_take (i := 0) (v := (.int .u8 1)) rfl (by kernel_rfl) (by kernel_rfl) (by kernel_rfl) (fun _ _ _ h => h) (Or.inl ⟨by rfl, ?_⟩) hHeld ?_
    · intro w' hSw
      try simp only [Act.put, List.getElem_toArray, List.getElem_cons_succ, List.getElem_cons_zero, List.setIfInBounds_toArray, List.set_cons_zero, List.set_cons_succ]
      go_simp
    try simp only [Act.put, List.getElem_toArray, List.getElem_cons_succ, List.getElem_cons_zero, List.setIfInBounds_toArray, List.set_cons_zero, List.set_cons_succ]
    refine wpAnyH_take (i := 1) (v := (.pointer (some ⟨b4, 0, none⟩))) rfl (by kernel_rfl) (by kernel_rfl) (by kernel_rfl) (fun _ _ _ h => h) (Or.inl ⟨by rfl, ?_⟩) hHeld ?_
    · intro w' hSw
      try simp only [Act.put, List.getElem_toArray, List.getElem_cons_succ, List.getElem_cons_zero, List.setIfInBounds_toArray, List.set_cons_zero, List.set_cons_succ]
      go_simp
    try simp only [Act.put, List.getElem_toArray, List.getElem_cons_succ, List.getElem_cons_zero, List.setIfInBounds_toArray, List.set_cons_zero, List.set_cons_succ]
    refine wpAnyH_take (i := 2) (v := (.pointer (some ⟨b4, 0, none⟩))) rfl (by kernel_rfl) (by kernel_rfl) (by kernel_rfl) (fun _ _ _ h => h) (Or.inl ⟨by rfl, ?_⟩) hHeld ?_
    · intro w' hSw
      try simp only [Act.put, List.getElem_toArray, List.getElem_cons_succ, List.getElem_cons_zero, List.setIfInBounds_toArray, List.set_cons_zero, List.set_cons_succ]
      go_simp
    try simp only [Act.put, List.getElem_toArray, List.getElem_cons_succ, List.getElem_cons_zero, List.setIfInBounds_toArray, List.set_cons_zero, List.set_cons_succ]
    refine wpAnyH_take (i := 3) (v := (.pointer (some ⟨b4, 0, none⟩))) rfl (by kernel_rfl) (by kernel_rfl) (by kernel_rfl) (fun _ _ _ h => h) (Or.inl ⟨by rfl, ?_⟩) hHeld ?_
    · intro w' hSw
      try simp only [Act.put, List.getElem_toArray, List.getElem_cons_succ, List.getElem_cons_zero, List.setIfInBounds_toArray, List.set_cons_zero, List.set_cons_succ]
      go_simp
    try simp only [Act.put, List.getElem_toArray, List.getElem_cons_succ, List.getElem_cons_zero, List.setIfInBounds_toArray, List.set_cons_zero, List.set_cons_succ]
    refine wpAnyH_take (i := 4) (v := (.pointer (some ⟨b4, 0, none⟩))) rfl (by kernel_rfl) (by kernel_rfl) (by kernel_rfl) (fun _ _ _ h => h) (Or.inl ⟨by rfl, ?_⟩) hHeld ?_
    · intro w' hSw
      try simp only [Act.put, List.getElem_toArray, List.getElem_cons_succ, List.getElem_cons_zero, List.setIfInBounds_toArray, List.set_cons_zero, List.set_cons_succ]
      go_simp
    try simp only [Act.put, List.getElem_toArray, List.getElem_cons_succ, List.getElem_cons_zero, List.setIfInBounds_toArray, List.set_cons_zero, List.set_cons_succ]
    refine wpAnyH_take (i := 5) (v := (stV D4 (.slice sa4 ns4 sc4) (.slice oa4 no4 oc4))) rfl (by kernel_rfl) (by kernel_rfl) (by kernel_rfl) (fun _ _ _ h => h) (Or.inl ⟨by rfl, ?_⟩) hHeld ?_
    · intro w' hSw
      try simp only [Act.put, List.getElem_toArray, List.getElem_cons_succ, List.getElem_cons_zero, List.setIfInBounds_toArray, List.set_cons_zero, List.set_cons_succ]
      go_simp
    try simp only [Act.put, List.getElem_toArray, List.getElem_cons_succ, List.getElem_cons_zero, List.setIfInBounds_toArray, List.set_cons_zero, List.set_cons_succ]
    refine wpAnyH_take (i := 6) (v := (.pointer (some ⟨b4, 0, none⟩))) rfl (by kernel_rfl) (by kernel_rfl) (by kernel_rfl) (fun _ _ _ h => h) (Or.inl ⟨by rfl, ?_⟩) hHeld ?_
    · intro w' hSw
      try simp only [Act.put, List.getElem_toArray, List.getElem_cons_succ, List.getElem_cons_zero, List.setIfInBounds_toArray, List.set_cons_zero, List.set_cons_succ]
      go_simp
    try simp only [Act.put, List.getElem_toArray, List.getElem_cons_succ, List.getElem_cons_zero, List.setIfInBounds_toArray, List.set_cons_zero, List.set_cons_succ]
    refine wpAnyH_take (i := 7) (v := (.pointer (some ⟨b4, 0, none⟩))) rfl (by kernel_rfl) (by kernel_rfl) (by kernel_rfl) (fun _ _ _ h => h) (Or.inl ⟨by rfl, ?_⟩) hHeld ?_
    · intro w' hSw
      try simp only [Act.put, List.getElem_toArray, List.getElem_cons_succ, List.getElem_cons_zero, List.setIfInBounds_toArray, List.set_cons_zero, List.set_cons_succ]
      go_simp
    try simp only [Act.put, List.getElem_toArray, List.getElem_cons_succ, List.getElem_cons_zero, List.setIfInBounds_toArray, List.set_cons_zero, List.set_cons_succ]
    refine wpAnyH_take (i := 8) (v := (.pointer (some ⟨b4, 9, none⟩))) rfl (by kernel_rfl) (by kernel_rfl) (by kernel_rfl) (fun _ _ _ h => h) (Or.inl ⟨by rfl, ?_⟩) hHeld ?_
    · intro w' hSw
      try simp only [Act.put, List.getElem_toArray, List.getElem_cons_succ, List.getElem_cons_zero, List.setIfInBounds_toArray, List.set_cons_zero, List.set_cons_succ]
      go_simp
    try simp only [Act.put, List.getElem_toArray, List.getElem_cons_succ, List.getElem_cons_zero, List.setIfInBounds_toArray, List.set_cons_zero, List.set_cons_succ]
    refine wpAnyH_take (i := 9) (v := (.slice ha4 nh4 hc4)) rfl (by kernel_rfl) (by kernel_rfl) (by kernel_rfl) (fun _ _ _ h => h) (Or.inl ⟨by rfl, ?_⟩) hHeld ?_
    · intro w' hSw
      try simp only [Act.put, List.getElem_toArray, List.getElem_cons_succ, List.getElem_cons_zero, List.setIfInBounds_toArray, List.set_cons_zero, List.set_cons_succ]
      go_simp
    try simp only [Act.put, List.getElem_toArray, List.getElem_cons_succ, List.getElem_cons_zero, List.setIfInBounds_toArray, List.set_cons_zero, List.set_cons_succ]
    refine wpAnyH_take (i := 10) (v := (.pointer (some ⟨b4, 0, none⟩))) rfl (by kernel_rfl) (by kernel_rfl) (by kernel_rfl) (fun _ _ _ h => h) (Or.inl ⟨by rfl, ?_⟩) hHeld ?_
    · intro w' hSw
      try simp only [Act.put, List.getElem_toArray, List.getElem_cons_succ, List.getElem_cons_zero, List.setIfInBounds_toArray, List.set_cons_zero, List.set_cons_succ]
      go_simp
    try simp only [Act.put, List.getElem_toArray, List.getElem_cons_succ, List.getElem_cons_zero, List.setIfInBounds_toArray, List.set_cons_zero, List.set_cons_succ]
    refine wpAnyH_take (i := 11) (v := (.pointer (some ⟨b4, 0, none⟩))) rfl (by kernel_rfl) (by kernel_rfl) (by kernel_rfl) (fun _ _ _ h => h) (Or.inl ⟨by rfl, ?_⟩) hHeld ?_
    · intro w' hSw
      try simp only [Act.put, List.getElem_toArray, List.getElem_cons_succ, List.getElem_cons_zero, List.setIfInBounds_toArray, List.set_cons_zero, List.set_cons_succ]
      go_simp
    try simp only [Act.put, List.getElem_toArray, List.getElem_cons_succ, List.getElem_cons_zero, List.setIfInBounds_toArray, List.set_cons_zero, List.set_cons_succ]
    refine wpAnyH_take (i := 12) (v := (.pointer (some ⟨b4, 11, none⟩))) rfl (by kernel_rfl) (by kernel_rfl) (by kernel_rfl) (fun _ _ _ h => h) (Or.inl ⟨by rfl, ?_⟩) hHeld ?_
    · intro w' hSw
      try simp only [Act.put, List.getElem_toArray, List.getElem_cons_succ, List.getElem_cons_zero, List.setIfInBounds_toArray, List.set_cons_zero, List.set_cons_succ]
      go_simp
    try simp only [Act.put, List.getElem_toArray, List.getElem_cons_succ, List.getElem_cons_zero, List.setIfInBounds_toArray, List.set_cons_zero, List.set_cons_succ]
    refine wpAnyH_take (i := 13) (v := (.slice aa4 na4 ac4)) rfl (by kernel_rfl) (by kernel_rfl) (by kernel_rfl) (fun _ _ _ h => h) (Or.inl ⟨by rfl, ?_⟩) hHeld ?_
    · intro w' hSw
      try simp only [Act.put, List.getElem_toArray, List.getElem_cons_succ, List.getElem_cons_zero, List.setIfInBounds_toArray, List.set_cons_zero, List.set_cons_succ]
      go_simp
    try simp only [Act.put, List.getElem_toArray, List.getElem_cons_succ, List.getElem_cons_zero, List.setIfInBounds_toArray, List.set_cons_zero, List.set_cons_succ]
    refine wpAnyH_take (i := 14) (v := (.agg (outA 1 D4 (.slice sa4 ns4 sc4) (.slice oa4 no4 oc4) (.slice ha4 nh4 hc4) (.slice aa4 na4 ac4) 0))) rfl (by kernel_rfl) (by kernel_rfl) (by kernel_rfl) (fun _ _ _ h => h) (Or.inl ⟨by rfl, ?_⟩) hHeld ?_
    · intro w' hSw
      try simp only [Act.put, List.getElem_toArray, List.getElem_cons_succ, List.getElem_cons_zero, List.setIfInBounds_toArray, List.set_cons_zero, List.set_cons_succ]
      go_simp
    try simp only [Act.put, List.getElem_toArray, List.getElem_cons_succ, List.getElem_cons_zero, List.setIfInBounds_toArray, List.set_cons_zero, List.set_cons_succ]
    clear hHeld
    refine wpAnyH_ready (rs := [15]) (by kernel_rfl) (by simp) (AllReadyH.cons rfl (fun K hK => ?_) AllReadyH.nil)
    rw [if_pos (by rfl)]
    go_simp
    refine hK.out _ _ sB (fun hHeld => ?_)
    clear hK
    try simp only [Act.put, List.getElem_toArray, List.getElem_cons_succ, List.getElem_cons_zero, List.setIfInBounds_toArray, List.set_cons_zero, List.set_cons_succ]
    clear hHeld
    refine wpAnyH_done (by kernel_rfl) ?_ _
    go_wp2
    have hfin := HR4.out.put 1 D4 (.slice sa4 ns4 sc4) (.slice oa4 no4 oc4) (.slice ha4 nh4 hc4) (.slice aa4 na4 ac4) 0
    refine bodyPost_ret (v := .agg (outA 1 D4 (.slice sa4 ns4 sc4) (.slice oa4 no4 oc4) (.slice ha4 nh4 hc4) (.slice aa4 na4 ac4) 0)) ?_ rfl (HFIN.out _ ((outPut_touch w4 (w.heap.size + 1) 1 D4 (.slice sa4 ns4 sc4) (.slice oa4 no4 oc4) (.slice ha4 nh4 hc4) (.slice aa4 na4 ac4) 0).drew))
    rw [res_cell rfl]
    have z : ∀ j, (outPut w4 (w.heap.size + 1) 1 D4 (.slice sa4 ns4 sc4) (.slice oa4 no4 oc4) (.slice ha4 nh4 hc4) (.slice aa4 na4 ac4) 0).cell? ⟨w.heap.size + 1, j, none⟩ = (outA 1 D4 (.slice sa4 ns4 sc4) (.slice oa4 no4 oc4) (.slice ha4 nh4 hc4) (.slice aa4 na4 ac4) 0)[j]? := fun j => hfin.cell j
    have z0 := z 0
    have z1 := z 1
    have z2 := z 2
    have z3 := z 3
    have z4 := z 4
    have z5 := z 5
    have z6 := z 6
    have z7 := z 7
    have z8 := z 8
    have z9 := z 9
    have z10 := z 10
    simp only [outA, List.getElem?_toArray, List.getElem?_cons_zero, List.getElem?_cons_succ] at z0 z1 z2 z3 z4 z5 z6 z7 z8 z9 z10
    simp [go_sem, z0, z1, z2, z3, z4, z5, z6, z7, z8, z9, z10]
  · have HT4 : Hid (Touch w w4 []) := HT3.out.trans t4 (fun x hx => .inr (by have := HGS.out x hx; omega))
    have HR4 : Hid _ := HR3.out.touch t4 (fun hx => by have := HGS.out _ hx; omega)
    have hb4 := HB3.out.touch t4 (fun hx => by have := HGS.out _ hx; omega)
    obtain ⟨x0, x1, x2, x3, x4, x5, x6⟩ := hb4.cells
    have H0 : Hid _ := h0
    obtain ⟨kd, hkd⟩ : ∃ kd : Int, kd = if r.1 = -1 then 2 else 3 := ⟨_, rfl⟩
    obtain ⟨er, her⟩ : ∃ er : Int, er = if r.1 = -1 then 0 else r.1 := ⟨_, rfl⟩
    have hk1 : ¬ kd = 1 := by rw [hkd]; split <;> decide
    have HKD : Hid _ := hkd
    have HER : Hid _ := her
    rw [← hkd, ← her]
    clear t4 hb4 h0 hkd her HTRD
    go_wp2_with fail
    refine (HCP.out _ HT4.out).out.mono ?_
    rintro e w5 ⟨vs5, vo5, rfl, o5, u5, n5, t5⟩
    obtain ⟨sa5, sc5, rfl⟩ := owns_slice o5
    obtain ⟨oa5, oc5, rfl⟩ := owns_slice u5
    have HT5 : Hid (Touch w w5 []) := HT4.out.trans t5 (by simp)
    clear x0 x1 x2 x3 x4 x5 x6
    go_wp2_with fail
    refine (HCL.out _ HT5.out).out.mono ?_
    rintro e w6 ⟨vh6, rfl, p6, t6⟩
    obtain ⟨ha6, hc6, rfl⟩ := owns_slice p6
    have hr6 := HR4.out.touch (t5.trans t6 (by simp)) (by simp)
    have HR6 : Hid _ := hr6
    have hs4 := HT4.out.size
    have hs5 := t5.size
    have hlt4 : w.heap.size + 1 < w4.heap.size := lt_of_heap HR4.out.st
    have HFIN : Hid (∀ W', Touch w6 W' [w.heap.size + 1] → BlkF w r D h (.returned (.agg (outA kd D (.slice sa5 D.st.length sc5) (.slice oa5 D.out.length oc5) (.slice ha6 h.length hc6) (.slice none 0 0) er))) W') := fun W' t => by
      have r5 : VRow W' (.slice sa5 D.st.length sc5) D.st := vrow_of (ownsRow_touch (ownsRow_touch o5 t6 (by simp)) t (fun g hg => by have := own_ge o5 g hg; simp; omega))
      have r6 : VRow W' (.slice oa5 D.out.length oc5) D.out := vrow_of (ownsRow_touch (ownsRow_touch u5 t6 (by simp)) t (fun g hg => by have := own_ge u5 g hg; simp; omega))
      have r7 : VRow W' (.slice ha6 h.length hc6) h := vrow_of (ownsRow_touch p6 t (fun g hg => by have := own_ge p6 g hg; simp; omega))
      refine .inr ⟨H0.out, _, _, _, by rw [← HKD.out, ← HER.out], r5, r6, r7, (HT5.out.trans t6 (by simp)).trans t (fun x hx => .inr (by simp at hx; omega)), fun g hg => by have := own_ge o5 g hg; omega, fun g hg => by have := own_ge u5 g hg; omega, fun g hg => by have := own_ge p6 g hg; omega⟩
    have q0 := hr6.cell 0
    have q1 := hr6.cell 1
    have q2 := hr6.cell 2
    have q3 := hr6.cell 3
    have q4 := hr6.cell 4
    have q5 := hr6.cell 5
    have q6 := hr6.cell 6
    have q7 := hr6.cell 7
    have q8 := hr6.cell 8
    have q9 := hr6.cell 9
    have q10 := hr6.cell 10
    simp at q0 q1 q2 q3 q4 q5 q6 q7 q8 q9 q10
    have g0 := hr6.fr 0
    have g1 := hr6.fr 1
    have g2 := hr6.fr 2
    have g3 := hr6.fr 3
    have g4 := hr6.fr 4
    have g5 := hr6.fr 5
    have g6 := hr6.fr 6
    have g7 := hr6.fr 7
    have g8 := hr6.fr 8
    have g9 := hr6.fr 9
    have g10 := hr6.fr 10
    clear o5 u5 n5 t5 p6 t6 hr6 hs4 hs5 hlt4 HCP HCL
    generalize D.st.length = ns4 at *
    generalize D.out.length = no4 at *
    generalize h.length = nh4 at *
    go_wp2
    have hfin := HR6.out.put kd D (.slice sa5 ns4 sc5) (.slice oa5 no4 oc5) (.slice ha6 nh4 hc6) (.slice none 0 0) er
    refine bodyPost_ret (v := .agg (outA kd D (.slice sa5 ns4 sc5) (.slice oa5 no4 oc5) (.slice ha6 nh4 hc6) (.slice none 0 0) er)) ?_ rfl (HFIN.out _ (outPut_touch w6 (w.heap.size + 1) kd D (.slice sa5 ns4 sc5) (.slice oa5 no4 oc5) (.slice ha6 nh4 hc6) (.slice none 0 0) er))
    rw [res_cell rfl]
    have z : ∀ j, (outPut w6 (w.heap.size + 1) kd D (.slice sa5 ns4 sc5) (.slice oa5 no4 oc5) (.slice ha6 nh4 hc6) (.slice none 0 0) er).cell? ⟨w.heap.size + 1, j, none⟩ = (outA kd D (.slice sa5 ns4 sc5) (.slice oa5 no4 oc5) (.slice ha6 nh4 hc6) (.slice none 0 0) er)[j]? := fun j => hfin.cell j
    have z0 := z 0
    have z1 := z 1
    have z2 := z 2
    have z3 := z 3
    have z4 := z 4
    have z5 := z 5
    have z6 := z 6
    have z7 := z 7
    have z8 := z 8
    have z9 := z 9
    have z10 := z 10
    simp only [outA, List.getElem?_toArray, List.getElem?_cons_zero, List.getElem?_cons_succ] at z0 z1 z2 z3 z4 z5 z6 z7 z8 z9 z10
    simp [go_sem, z0, z1, z2, z3, z4, z5, z6, z7, z8, z9, z10]

theorem block_any {w : World} {vs vo : Value} {ap : Option Addr} {cp : Nat} {l : List InsD} {D : WD} {ah : Option Addr} {ch : Nat} {h : List Int} (hs : VRow w vs D.st) (ho : VRow w vo D.out) (hh : VRow w (.slice ah h.length ch) h) (hl : InsRow w (.slice ap l.length cp) l) (hll : l.length ≤ 1000) (hlw : ∀ i ∈ l, i.Wf) (hS : SWf D h) (f : Int) (hpc : -9223372036854775808 ≤ D.pc ∧ D.pc < 9223372036854775807) :
    Calls Try.prog 15 #[.slice ap l.length cp, stV D vs vo, .slice ah h.length ch, .int .i64 f] w (BlkP w (outX l D h f) D h) := (block_fresh hs ho hh hl hll hlw hS f).mono fun _ _ k => k.p

end Go.Proofs.Ytlndbligbpfdpaa
