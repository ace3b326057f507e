/-
  package spec: Step BY ITS CONTRACT.
-/
import Derived.Test.YtlndbligbpfdpaaSpPlain
namespace Go.Proofs.Ytlndbligbpfdpaa
set_option linter.unusedVariables false
set_option linter.unusedSimpArgs false
open Go.RowKit
attribute [local go_sem] Oper.semAt_some

theorem res_cell_slot {fn : Func} {p q : Tmp} {ty : TypeId} (h : fn.results = #[.cell p ty, .tmp q]) (tmps : Array Value) (P : Program) (w : World) {v : Value} {a : Addr} (hp : tmps.getD p undef = .pointer (some a)) (hl : (loadVar ty a).run P w = .ok v w) :
    (results fn tmps).run P w = .ok (.tuple #[v, tmps.getD q undef]) w := by
  rw [Array.getD_eq_getD_getElem?] at hp
  simp only [results, h]
  simp [Sem.run_bind, Result.andThen, hp, asAddr, hl]
/-- Behind Step: a State and no error, or the error. -/
def StpP (w : World) (r : Int × WD) (e : Ending) (w' : World) : Prop :=
  (r.1 = 0 ∧ ∃ sa sc oa oc, e = .returned (.tuple #[stV r.2 (.slice sa r.2.st.length sc) (.slice oa r.2.out.length oc), .int .i64 0]) ∧ VRow w' (.slice sa r.2.st.length sc) r.2.st ∧ VRow w' (.slice oa r.2.out.length oc) r.2.out ∧ Touch w w' [] ∧ (∀ g, (Value.slice sa r.2.st.length sc).ownBlock = some g → w.heap.size ≤ g) ∧ (∀ g, (Value.slice oa r.2.out.length oc).ownBlock = some g → w.heap.size ≤ g)) ∨
  (r.1 ≠ 0 ∧ e = .returned (.tuple #[stV zWD (.slice none 0 0) (.slice none 0 0), .int .i64 r.1]) ∧ Touch w w' [])

set_option maxRecDepth 100000 in
theorem step1_ok {w : World} {b B : Nat} {T : TypeId} {tl : List Value} {vs vo vp : Value} {D : WD} (h : Calls Try.prog 24 #[.pointer (some ⟨b, 0, none⟩)] w (StepP w b B T tl vs vo vp D)) :
    Calls Try.prog 23 #[.pointer (some ⟨b, 0, none⟩)] w fun e w' => e = .returned (.int .u8 1) ∧ StepP w b B T tl vs vo vp D (.returned (.tuple #[])) w' := by
  have H : HidC _ _ _ _ _ := ⟨h⟩
  clear h
  go_enter Try.func23, Try.ntmps23
  go_wp2_with fail
  refine H.out.mono ?_
  intro e w1 h1
  have he := h1.1
  subst he
  have H1 : Hid _ := h1
  clear h1
  go_wp2
  go_ret
  exact ⟨rfl, rfl, H1.out.2⟩
set_option maxRecDepth 100000 in
theorem step1_no {w : World} {b : Nat} {er : Int} (h : Calls Try.prog 24 #[.pointer (some ⟨b, 0, none⟩)] w (StuckP er w)) :
    Calls Try.prog 23 #[.pointer (some ⟨b, 0, none⟩)] w (StuckP er w) := by
  have H : HidC _ _ _ _ _ := ⟨h⟩
  clear h
  go_enter Try.func23, Try.ntmps23
  go_wp2_with fail
  refine H.out.mono ?_
  rintro e w1 ⟨rfl, t1⟩
  exact ⟨rfl, rfl, t1⟩
/-- tried around a step. -/
def TrsP (W : World) (b B : Nat) (vp : Value) (r : Int × WD) (e : Ending) (w' : World) : Prop :=
  (r.1 = 0 ∧ e = .returned (.tuple #[.int .u8 1, .int .i64 0]) ∧ ∃ vs' vo', WObj w' b 60 [] vs' vo' vp r.2 ∧ valOwn w' B vs' r.2.st ∧ valOwn w' B vo' r.2.out ∧ (∃ S, Touch W w' S ∧ ∀ x ∈ S, x = b ∨ B ≤ x)) ∨
  (r.1 ≠ 0 ∧ e = .returned (.tuple #[.int .u8 3, .int .i64 r.1]) ∧ Touch W w' [])
theorem trs_any {W : World} {b B : Nat} {vs vo : Value} {ap : Option Addr} {cp : Nat} {l : List InsD} {D : WD} (o : WOwn W b B 60 [] vs vo (.slice ap l.length cp) D) (hl : InsRow W (.slice ap l.length cp) l) (hll : l.length ≤ 9223372036854775807) (hn : D.st.length ≤ 1000) (hw : ∀ x ∈ D.st, Wf64 x) :
    Calls Try.prog 22 #[.func (.func 23) #[] #[.pointer (some ⟨b, 0, none⟩)]] W (TrsP W b B (.slice ap l.length cp) (stepW l D)) := by
  by_cases h0 : (stepW l D).1 = 0
  · refine (triedS_ok _ _ _ 1 W (b :: (vs.ownBlock.toList ++ vo.ownBlock.toList)) ?_ (fun w1 w2 => ∃ vs' vo', WOwn w2 b B 60 [] vs' vo' (.slice ap l.length cp) (stepW l D).2 ∧ (∀ g, vs'.ownBlock = some g → g < W.heap.size ∨ W.heap.size + 2 ≤ g) ∧ (∀ g, vo'.ownBlock = some g → g < W.heap.size ∨ W.heap.size + 2 ≤ g)) (fun w1 => enter_of Try.func23 (by kernel_rfl) (by kernel_rfl) w1) (fun w1 t1 hs1 => ?_)).mono ?_
    · intro x hx
      simp only [List.mem_cons, List.mem_append, Option.mem_toList] at hx
      rcases hx with rfl | hx | hx
      · exact o.o.lt
      · exact own_lt o.s x hx
      · exact own_lt o.u x hx
    · refine (step1_ok (B := B) (T := 60) (tl := []) (vs := vs) (vo := vo) (vp := .slice ap l.length cp) (D := (stepW l D).2) ((step_any (o.touch t1) (SRow.keep hl t1 (by simp)) hll hn hw).mono ?_)).mono ?_
      · rintro e w2 (⟨_, h2⟩ | ⟨h2, _⟩)
        · exact h2
        · exact absurd h0 h2
      · rintro e w2 ⟨rfl, _, vs', vo', k1, k2, k3, k4⟩
        refine ⟨rfl, k2, vs', vo', k1, fun g hg => ?_, fun g hg => ?_⟩
        · rcases k3 g hg with q | q
          · exact .inl (own_lt o.s g q)
          · exact .inr (by omega)
        · rcases k4 g hg with q | q
          · exact .inl (own_lt o.u g q)
          · exact .inr (by omega)
    · rintro e w' ⟨rfl, w1, w2, t1, t2, ⟨vs', vo', k1, k2, k3⟩, t3⟩
      have hbl := o.o.lt
      refine .inl ⟨h0, rfl, vs', vo', k1.o.touch t3 (by simp; omega), ownsRow_touch k1.s t3 (fun g hg hs => by have := k2 g hg; simp at hs; omega), ownsRow_touch k1.u t3 (fun g hg hs => by have := k3 g hg; simp at hs; omega), (b :: (vs.ownBlock.toList ++ vo.ownBlock.toList)) ++ [W.heap.size, W.heap.size + 1], ?_, ?_⟩
      · exact ((t1.mono (by simp)).trans (t2.mono (fun x hx => by simp only [List.mem_append]; exact .inl hx)) (fun x hx => .inl hx)).trans (t3.mono (fun x hx => by simp only [List.mem_append]; exact .inr hx)) (fun x hx => .inl hx)
      · intro x hx
        have hB := o.hB
        simp only [List.mem_append, List.mem_cons, Option.mem_toList, List.not_mem_nil, or_false] at hx
        rcases hx with (rfl | hx | hx) | rfl | rfl
        · exact .inl rfl
        · exact .inr (own_ge o.s x hx)
        · exact .inr (own_ge o.u x hx)
        · exact .inr hB
        · exact .inr (by omega)
  · refine (triedS_stuck _ _ _ (stepW l D).1 W [] (by simp) (fun _ _ => True) (fun w1 => enter_of Try.func23 (by kernel_rfl) (by kernel_rfl) w1) (fun w1 t1 hs1 => ?_)).mono ?_
    · refine (step1_no (er := (stepW l D).1) ((step_any (o.touch t1) (SRow.keep hl t1 (by simp)) hll hn hw).mono ?_)).mono ?_
      · rintro e w2 (⟨h2, _⟩ | ⟨_, h2⟩)
        · exact absurd h2 h0
        · exact h2
      · rintro e w2 ⟨rfl, k2⟩
        exact ⟨rfl, k2, trivial⟩
    · rintro e w' ⟨rfl, w1, w2, t1, t2, _, t3⟩
      exact .inr ⟨h0, rfl, (t1.trans t2 (by simp)).trans t3 (fun x hx => .inr (by simp at hx; omega))⟩

set_option maxRecDepth 100000 in
set_option maxHeartbeats 2000000 in
theorem sstep_any {w : World} {vs vo : Value} {ap : Option Addr} {cp : Nat} {l : List InsD} {D : WD} (hs : VRow w vs D.st) (ho : VRow w vo D.out) (hl : InsRow w (.slice ap l.length cp) l) (hll : l.length ≤ 1000) (hsl : D.st.length ≤ 1000) (hol : D.out.length ≤ 1000) (hwf : ∀ x ∈ D.st, Wf64 x) :
    Calls Try.prog 8 #[.slice ap l.length cp, stV D vs vo] w (StpP w (stepW l { D with fuel := 0 })) := by
  have tQ : Touch w ((w.alloc (.cells #[.int .i64 D.pc, vs, .int .u64 D.l0, .int .u64 D.l1, .int .u64 D.l2, .int .u64 D.l3, vo] 28)).alloc (.cells #[.int .i64 0, .slice none 0 0, .int .u64 0, .int .u64 0, .int .u64 0, .int .u64 0, .slice none 0 0] 28)) [] := ((Touch.refl w []).alloc _).alloc _
  have hQb : StB ((w.alloc (.cells #[.int .i64 D.pc, vs, .int .u64 D.l0, .int .u64 D.l1, .int .u64 D.l2, .int .u64 D.l3, vo] 28)).alloc (.cells #[.int .i64 0, .slice none 0 0, .int .u64 0, .int .u64 0, .int .u64 0, .int .u64 0, .slice none 0 0] 28)) w.heap.size D vs vo := StB.touch (⟨heap_alloc_new w _⟩ : StB (w.alloc (.cells #[.int .i64 D.pc, vs, .int .u64 D.l0, .int .u64 D.l1, .int .u64 D.l2, .int .u64 D.l3, vo] 28)) w.heap.size D vs vo) ((Touch.refl _ []).alloc _) (by simp)
  have hQr : StB ((w.alloc (.cells #[.int .i64 D.pc, vs, .int .u64 D.l0, .int .u64 D.l1, .int .u64 D.l2, .int .u64 D.l3, vo] 28)).alloc (.cells #[.int .i64 0, .slice none 0 0, .int .u64 0, .int .u64 0, .int .u64 0, .int .u64 0, .slice none 0 0] 28)) (w.heap.size + 1) zWD (.slice none 0 0) (.slice none 0 0) := ⟨by
    have := heap_alloc_new (w.alloc (.cells #[.int .i64 D.pc, vs, .int .u64 D.l0, .int .u64 D.l1, .int .u64 D.l2, .int .u64 D.l3, vo] 28)) (.cells #[.int .i64 0, .slice none 0 0, .int .u64 0, .int .u64 0, .int .u64 0, .int .u64 0, .slice none 0 0] 28)
    simpa using this⟩
  have HQS : Hid (((w.alloc (.cells #[.int .i64 D.pc, vs, .int .u64 D.l0, .int .u64 D.l1, .int .u64 D.l2, .int .u64 D.l3, vo] 28)).alloc (.cells #[.int .i64 0, .slice none 0 0, .int .u64 0, .int .u64 0, .int .u64 0, .int .u64 0, .slice none 0 0] 28)).heap.size = w.heap.size + 2) := by show _ = _; simp
  have HWO : Hid (∀ W, Touch w W [] → HidC Try.prog 21 #[.slice ap l.length cp, stV D vs vo, .int .i64 0] W (WofP W { D with fuel := 0 } (.slice ap l.length cp))) := fun W t => ⟨walkOf_any (SRow.keep hs t (by simp)) (SRow.keep ho t (by simp)) (by omega) (by omega) 0⟩
  obtain ⟨r, hr⟩ : ∃ r, r = stepW l { D with fuel := 0 } := ⟨_, rfl⟩
  have HTR : Hid (∀ (W : World) b B vs1 vo1, Touch w W [] → WOwn W b B 60 [] vs1 vo1 (.slice ap l.length cp) { D with fuel := 0 } → HidC Try.prog 22 #[.func (.func 23) #[] #[.pointer (some ⟨b, 0, none⟩)]] W (TrsP W b B (.slice ap l.length cp) r)) := fun W b B vs1 vo1 t o => ⟨by rw [hr]; exact trs_any o (SRow.keep hl t (by simp)) (by omega) hsl hwf⟩
  rw [← hr]
  have HTQ : Hid _ := tQ
  have HQR : Hid _ := hQr
  obtain ⟨x0, x1, x2, x3, x4, x5, x6⟩ := hQb.cells
  clear hs ho hl hll hsl hol hwf tQ hQb hQr hr
  go_enter Try.func8, Try.ntmps8
  go_wp2_with fail
  generalize ((w.alloc (.cells #[.int .i64 D.pc, vs, .int .u64 D.l0, .int .u64 D.l1, .int .u64 D.l2, .int .u64 D.l3, vo] 28)).alloc (.cells #[.int .i64 0, .slice none 0 0, .int .u64 0, .int .u64 0, .int .u64 0, .int .u64 0, .slice none 0 0] 28)) = Q at *
  refine (HWO.out _ HTQ.out).out.mono ?_
  rintro e w1 ⟨vs1, vo1, rfl, o1, u1, n1, t1⟩
  obtain ⟨sa, sc, rfl⟩ := owns_slice o1
  obtain ⟨oa, oc, rfl⟩ := owns_slice u1
  have tC : Touch w1 (w1.alloc (.cells #[.int .i64 D.pc, .slice sa D.st.length sc, .int .u64 D.l0, .int .u64 D.l1, .int .u64 D.l2, .int .u64 D.l3, .slice oa D.out.length oc, .slice ap l.length cp, .int .i64 0] 60)) [] := (Touch.refl w1 []).alloc _
  have HWK : Hid (WOwn (w1.alloc (.cells #[.int .i64 D.pc, .slice sa D.st.length sc, .int .u64 D.l0, .int .u64 D.l1, .int .u64 D.l2, .int .u64 D.l3, .slice oa D.out.length oc, .slice ap l.length cp, .int .i64 0] 60)) w1.heap.size Q.heap.size 60 [] (.slice sa D.st.length sc) (.slice oa D.out.length oc) (.slice ap l.length cp) { D with fuel := 0 }) := ⟨⟨heap_alloc_new w1 _⟩, ownsRow_touch o1 tC (by simp), ownsRow_touch u1 tC (by simp), n1, Nat.le_trans t1.size tC.size, fun g hg => Nat.ne_of_lt (own_lt o1 g hg), fun g hg => Nat.ne_of_lt (own_lt u1 g hg)⟩
  have HT1 : Hid (Touch w (w1.alloc (.cells #[.int .i64 D.pc, .slice sa D.st.length sc, .int .u64 D.l0, .int .u64 D.l1, .int .u64 D.l2, .int .u64 D.l3, .slice oa D.out.length oc, .slice ap l.length cp, .int .i64 0] 60)) []) := HTQ.out.trans (t1.trans tC (by simp)) (by simp)
  have HTS : Hid (Touch Q (w1.alloc (.cells #[.int .i64 D.pc, .slice sa D.st.length sc, .int .u64 D.l0, .int .u64 D.l1, .int .u64 D.l2, .int .u64 D.l3, .slice oa D.out.length oc, .slice ap l.length cp, .int .i64 0] 60)) []) := t1.trans tC (by simp)
  have hbQ : Q.heap.size ≤ w1.heap.size := t1.size
  clear HWO x0 x1 x2 x3 x4 x5 x6 tC t1 o1 u1 n1
  go_wp2_with fail
  generalize (w1.alloc (.cells #[.int .i64 D.pc, .slice sa D.st.length sc, .int .u64 D.l0, .int .u64 D.l1, .int .u64 D.l2, .int .u64 D.l3, .slice oa D.out.length oc, .slice ap l.length cp, .int .i64 0] 60)) = Q2 at *
  generalize w1.heap.size = b at *
  refine (HTR.out _ _ _ _ _ HT1.out HWK.out).out.mono ?_
  rintro e w2 (⟨h0, rfl, vs2, vo2, k1, k2, k3, S, k4, k5⟩ | ⟨h0, rfl, k4⟩)
  · obtain ⟨sa2, sc2, rfl⟩ := owns_slice k2
    obtain ⟨oa2, oc2, rfl⟩ := owns_slice k3
    have hc := k1.cells
    obtain ⟨y0, y1, y2, y3, y4, y5, y6, y7, y8⟩ := hc
    have hnS : ∀ x, x < Q.heap.size → x ∉ S := fun x hx hS => by rcases k5 x hS with q | q <;> omega
    have hr2 := (HQR.out.touch HTS.out (by simp)).touch k4 (hnS _ (by have := HQS.out; omega))
    have HR2 : Hid _ := hr2
    have HT2 : Hid (Touch w w2 []) := HT1.out.trans k4 (fun x hx => .inr (by have := HQS.out; rcases k5 x hx with q | q <;> omega))
    have HK2 : Hid _ := k2
    have HK3 : Hid _ := k3
    obtain ⟨z0, z1, z2, z3, z4, z5, z6⟩ := hr2.cells
    have f0 := hr2.fr 0
    have f1 := hr2.fr 1
    have f2 := hr2.fr 2
    have f3 := hr2.fr 3
    have f4 := hr2.fr 4
    have f5 := hr2.fr 5
    have f6 := hr2.fr 6
    obtain ⟨r1, E⟩ := r
    simp only at h0 y0 y1 y2 y3 y4 y5 y6 y7 y8 HK2 HK3
    subst h0
    clear k1 k2 k3 k4 k5 hr2 hnS HTR HWK HT1 HTS
    go_wp2
    have hfin := HR2.out.put E (.slice sa2 E.st.length sc2) (.slice oa2 E.out.length oc2)
    have t3 := stPut_touch w2 (w.heap.size + 1) E (.slice sa2 E.st.length sc2) (.slice oa2 E.out.length oc2)
    obtain ⟨z0', z1', z2', z3', z4', z5', z6'⟩ := hfin.cells
    refine bodyPost_ret (v := .tuple #[stV E (.slice sa2 E.st.length sc2) (.slice oa2 E.out.length oc2), .int .i64 0]) (res_cell_slot (v := stV E (.slice sa2 E.st.length sc2) (.slice oa2 E.out.length oc2)) (a := ⟨w.heap.size + 1, 0, none⟩) Try.results8 _ _ _ rfl ?_) rfl (.inl ⟨rfl, sa2, sc2, oa2, oc2, rfl, vrow_of (ownsRow_touch HK2.out t3 (fun g hg hs => by have := own_ge HK2.out g hg; have := HQS.out; simp at hs; omega)), vrow_of (ownsRow_touch HK3.out t3 (fun g hg hs => by have := own_ge HK3.out g hg; have := HQS.out; simp at hs; omega)), HT2.out.trans t3 (fun x hx => .inr (by simp at hx; omega)), fun g hg => by have := own_ge HK2.out g hg; have := HQS.out; omega, fun g hg => by have := own_ge HK3.out g hg; have := HQS.out; omega⟩)
    simp [go_sem, z0', z1', z2', z3', z4', z5', z6']
  · have hr2 := (HQR.out.touch HTS.out (by simp)).touch k4 (by simp)
    have HR2 : Hid _ := hr2
    have HT2 : Hid (Touch w w2 []) := HT1.out.trans k4 (by simp)
    obtain ⟨z0, z1, z2, z3, z4, z5, z6⟩ := hr2.cells
    have f0 := hr2.fr 0
    have f1 := hr2.fr 1
    have f2 := hr2.fr 2
    have f3 := hr2.fr 3
    have f4 := hr2.fr 4
    have f5 := hr2.fr 5
    have f6 := hr2.fr 6
    obtain ⟨r1, E⟩ := r
    simp only at h0 ⊢
    clear k4 hr2 HTR HWK HT1 HTS
    go_wp2
    have hfin := HR2.out.put zWD (.slice none 0 0) (.slice none 0 0)
    have t3 := stPut_touch w2 (w.heap.size + 1) zWD (.slice none 0 0) (.slice none 0 0)
    obtain ⟨z0', z1', z2', z3', z4', z5', z6'⟩ := hfin.cells
    refine bodyPost_ret (v := .tuple #[stV zWD (.slice none 0 0) (.slice none 0 0), .int .i64 r1]) (res_cell_slot (v := stV zWD (.slice none 0 0) (.slice none 0 0)) (a := ⟨w.heap.size + 1, 0, none⟩) Try.results8 _ _ _ rfl ?_) rfl (.inr ⟨h0, rfl, HT2.out.trans t3 (fun x hx => .inr (by simp at hx; omega))⟩)
    simp [go_sem, z0', z1', z2', z3', z4', z5', z6']

end Go.Proofs.Ytlndbligbpfdpaa
