/-
  package spec: Plain BY ITS CONTRACT, wherever it stands.
-/
import Derived.Test.YtlndbligbpfdpaaSkPln
namespace Go.Proofs.Ytlndbligbpfdpaa
set_option linter.unusedVariables false
set_option linter.unusedSimpArgs false
open Go.RowKit
attribute [local go_sem] Oper.semAt_some

theorem vrow_z (w : World) : VRow w (.slice none 0 0) [] := ⟨none, 0, rfl, fun h => absurd h (by simp)⟩
theorem own_zero {w : World} {B : Nat} {v : Value} {l : List Int} (h : valOwn w B v l) : valOwn w 0 v l := by
  refine ⟨h.1, ?_⟩
  rcases h.2 with ⟨e5, h5⟩ | ⟨g5, cap5, cur5, e5, hb5, rest⟩
  · exact .inl ⟨e5, h5⟩
  · exact .inr ⟨g5, cap5, cur5, e5, Nat.zero_le _, rest⟩
/-- tried around toBlock. -/
def TrtP (w : World) (S0 : List Nat) (b : Nat) (vp : Value) (R : (Int × Int) × WD) (e : Ending) (w' : World) : Prop :=
  e = .returned (.tuple #[.int .u8 R.1.1, .int .i64 R.1.2]) ∧ ∃ vs vo, WOwn w' b 0 60 [] vs vo vp R.2 ∧ Touch w w' S0 ∧ (∀ g, vs.ownBlock = some g → g ∈ S0 ∨ w.heap.size ≤ g) ∧ (∀ g, vo.ownBlock = some g → g ∈ S0 ∨ w.heap.size ≤ g)
theorem triedT {w : World} {b : Nat} {ap : Option Addr} {cp : Nat} {l : List InsD} {D : WD} {vs vo : Value} (k : WOwn w b 0 60 [] vs vo (.slice ap l.length cp) D) (hl : ∀ W, Touch w W (b :: (ob vs ++ ob vo)) → InsRow W (.slice ap l.length cp) l) (hll : l.length ≤ 1000) (hlw : ∀ i ∈ l, i.Wf) (hX : SWf D []) (hf : D.fuel ≤ 300) :
    Calls Try.prog 22 #[.func (.func 38) #[.pointer (some ⟨b, 0, none⟩)] #[]] w (TrtP w (b :: (ob vs ++ ob vo)) b (.slice ap l.length cp) (plnN l D.fuel.toNat D)) := by
  have hS : ∀ x ∈ b :: (ob vs ++ ob vo), x < w.heap.size := by
    intro x hx
    simp only [List.mem_cons, List.mem_append] at hx
    rcases hx with rfl | hx | hx
    · exact k.o.lt
    · exact own_lt k.s x (mem_ob.1 hx)
    · exact own_lt k.u x (mem_ob.1 hx)
  have hen : ∀ w1, (callFunc 38 (#[.pointer (some ⟨b, 0, none⟩)] ++ #[])).run Try.prog w1 = .ok (.enter 38 (#[.pointer (some ⟨b, 0, none⟩)] ++ #[])) w1 := fun w1 => enter_of Try.func38 (by kernel_rfl) (by kernel_rfl) w1
  have hc : ∀ w1, Touch w w1 [] → w1.heap.size = w.heap.size + 2 → Calls Try.prog 38 #[.pointer (some ⟨b, 0, none⟩)] w1 (TbP w1 (b :: (ob vs ++ ob vo)) b (.slice ap l.length cp) (plnN l D.fuel.toNat D)) := fun w1 t1 h1 => by
    have k1 := k.touch t1
    exact toBlock_any ⟨vs, vo, k1, Touch.refl _ _, fun g hg => .inl (by simp [mem_ob.2 hg]), fun g hg => .inl (by simp [mem_ob.2 hg]), by simp⟩ (fun W t => hl W ((t1.mono (by simp)).trans t (fun x hx => .inl hx))) hll hlw hX hf
  generalize plnN l D.fuel.toNat D = R at *
  have fin : ∀ (e : Ending) (w' : World), TriedP w (b :: (ob vs ++ ob vo)) (fun w1 w2 => w1.heap.size = w.heap.size + 2 ∧ TBk w1 (b :: (ob vs ++ ob vo)) w2 b (.slice ap l.length cp) R.2) R.1.1 R.1.2 e w' → TrtP w (b :: (ob vs ++ ob vo)) b (.slice ap l.length cp) R e w' := by
    rintro e w' ⟨rfl, w1, w2, t1, t2, ⟨hsz, vs2, vo2, k2, t2', g1, g2, _⟩, t3⟩
    have hout : ∀ g, (g ∈ b :: (ob vs ++ ob vo) ∨ w1.heap.size ≤ g) → g ∉ [w.heap.size, w.heap.size + 1] := fun g hg hm => by
      simp only [List.mem_cons, List.not_mem_nil, or_false] at hm
      rcases hg with q | q
      · have := hS g q; omega
      · omega
    refine ⟨rfl, vs2, vo2, ⟨k2.o.touch t3 (hout b (.inl (by simp))), ownsRow_touch k2.s t3 (fun g hg => hout g (g1 g hg)), ownsRow_touch k2.u t3 (fun g hg => hout g (g2 g hg)), k2.n, Nat.zero_le _, k2.hb, k2.hc⟩, ((t1.mono (by simp)).trans t2 (fun x hx => .inl hx)).trans t3 (fun x hx => .inr (by simp at hx; omega)), fun g hg => ?_, fun g hg => ?_⟩
    · rcases g1 g hg with q | q
      · exact .inl q
      · exact .inr (by omega)
    · rcases g2 g hg with q | q
      · exact .inl q
      · exact .inr (by omega)
  by_cases h3 : R.1.1 = 3
  · refine (triedS_stuck _ _ _ R.1.2 w _ hS (fun w1 w2 => w1.heap.size = w.heap.size + 2 ∧ TBk w1 (b :: (ob vs ++ ob vo)) w2 b (.slice ap l.length cp) R.2) hen (fun w1 t1 h1 => ?_)).mono (fun e w' h => fin e w' (by rw [h3]; exact h))
    refine (hc w1 t1 h1).mono ?_
    rintro e w' (⟨q, _⟩ | ⟨_, _, rfl, hk⟩)
    · exact absurd h3 q
    · obtain ⟨vs2, vo2, k2, t2, rest⟩ := hk
      exact ⟨rfl, t2, h1, vs2, vo2, k2, t2, rest⟩
  · refine (triedS_ok _ _ _ R.1.1 w _ hS (fun w1 w2 => R.1.2 = 0 ∧ w1.heap.size = w.heap.size + 2 ∧ TBk w1 (b :: (ob vs ++ ob vo)) w2 b (.slice ap l.length cp) R.2) hen (fun w1 t1 h1 => ?_)).mono ?_
    · refine (hc w1 t1 h1).mono ?_
      rintro e w' (⟨_, h0, rfl, hk⟩ | ⟨q, _⟩)
      · obtain ⟨vs2, vo2, k2, t2, rest⟩ := hk
        exact ⟨rfl, t2, h0, h1, vs2, vo2, k2, t2, rest⟩
      · exact absurd q h3
    · rintro e w' ⟨rfl, w1, w2, t1, t2, ⟨h0, hr⟩, t3⟩
      exact fin _ _ ⟨by rw [h0], w1, w2, t1, t2, hr, t3⟩

/-- What Plain answers. -/
def PlnQ (w : World) (R : (Int × Int) × WD) (e : Ending) (w' : World) : Prop := ∃ sa sc oa oc, e = .returned (.agg (outA R.1.1 R.2 (.slice sa R.2.st.length sc) (.slice oa R.2.out.length oc) (.slice none 0 0) (.slice none 0 0) R.1.2)) ∧ VRow w' (.slice sa R.2.st.length sc) R.2.st ∧ VRow w' (.slice oa R.2.out.length oc) R.2.out ∧ Touch w w' [] ∧ FrA w (.slice sa R.2.st.length sc) ∧ FrA w (.slice oa R.2.out.length oc)
def plainX (l : List InsD) (D : WD) (f : Int) : (Int × Int) × WD := plnN l (fuelW f).toNat { D with fuel := fuelW f }
set_option maxRecDepth 100000 in
set_option maxHeartbeats 2000000 in
theorem plain_any {w : World} {vs vo : Value} {ap : Option Addr} {cp : Nat} {l : List InsD} {D : WD} (hs : VRow w vs D.st) (ho : VRow w vo D.out) (hl : InsRow w (.slice ap l.length cp) l) (hll : l.length ≤ 1000) (hlw : ∀ i ∈ l, i.Wf) (hX : SWf D []) (f : Int) :
    Calls Try.prog 20 #[.slice ap l.length cp, stV D vs vo, .int .i64 f] w (PlnQ w (plainX l D f)) := by
  have tQ : Touch w ((w.alloc (.cells #[.int .i64 D.pc, vs, .int .u64 D.l0, .int .u64 D.l1, .int .u64 D.l2, .int .u64 D.l3, vo] 28)).alloc (.cells (outA 0 zWD (.slice none 0 0) (.slice none 0 0) (.slice none 0 0) (.slice none 0 0) 0) 41)) [] := ((Touch.refl w []).alloc _).alloc _
  have hQb : StB ((w.alloc (.cells #[.int .i64 D.pc, vs, .int .u64 D.l0, .int .u64 D.l1, .int .u64 D.l2, .int .u64 D.l3, vo] 28)).alloc (.cells (outA 0 zWD (.slice none 0 0) (.slice none 0 0) (.slice none 0 0) (.slice none 0 0) 0) 41)) w.heap.size D vs vo := StB.touch (⟨heap_alloc_new w _⟩ : StB (w.alloc (.cells #[.int .i64 D.pc, vs, .int .u64 D.l0, .int .u64 D.l1, .int .u64 D.l2, .int .u64 D.l3, vo] 28)) w.heap.size D vs vo) ((Touch.refl _ []).alloc _) (by simp)
  have hQr : OutB ((w.alloc (.cells #[.int .i64 D.pc, vs, .int .u64 D.l0, .int .u64 D.l1, .int .u64 D.l2, .int .u64 D.l3, vo] 28)).alloc (.cells (outA 0 zWD (.slice none 0 0) (.slice none 0 0) (.slice none 0 0) (.slice none 0 0) 0) 41)) (w.heap.size + 1) (outA 0 zWD (.slice none 0 0) (.slice none 0 0) (.slice none 0 0) (.slice none 0 0) 0) := ⟨by
    have := heap_alloc_new (w.alloc (.cells #[.int .i64 D.pc, vs, .int .u64 D.l0, .int .u64 D.l1, .int .u64 D.l2, .int .u64 D.l3, vo] 28)) (.cells (outA 0 zWD (.slice none 0 0) (.slice none 0 0) (.slice none 0 0) (.slice none 0 0) 0) 41)
    simpa using this⟩
  have HQS : Hid (((w.alloc (.cells #[.int .i64 D.pc, vs, .int .u64 D.l0, .int .u64 D.l1, .int .u64 D.l2, .int .u64 D.l3, vo] 28)).alloc (.cells (outA 0 zWD (.slice none 0 0) (.slice none 0 0) (.slice none 0 0) (.slice none 0 0) 0) 41)).heap.size = w.heap.size + 2) := by show _ = _; simp
  have hfl : fuelW f ≤ 300 := by unfold fuelW; split <;> omega
  have hXf : SWf { D with fuel := fuelW f } [] := hX.fuel _
  have HWO : Hid (∀ W, Touch w W [] → HidC Try.prog 21 #[.slice ap l.length cp, stV D vs vo, .int .i64 f] W (WofP W { D with fuel := fuelW f } (.slice ap l.length cp))) := fun W t => ⟨walkOf_any (SRow.keep hs t (by simp)) (SRow.keep ho t (by simp)) (by have := hX.st; omega) (by have := hX.out; omega) f⟩
  have HTR : Hid (∀ (W : World) b vs1 vo1, Touch w W [] → WOwn W b 0 60 [] vs1 vo1 (.slice ap l.length cp) { D with fuel := fuelW f } → (∀ x ∈ b :: (ob vs1 ++ ob vo1), w.heap.size ≤ x) → HidC Try.prog 22 #[.func (.func 38) #[.pointer (some ⟨b, 0, none⟩)] #[]] W (TrtP W (b :: (ob vs1 ++ ob vo1)) b (.slice ap l.length cp) (plainX l D f))) := fun W b vs1 vo1 t o hge => ⟨triedT o (fun W' t' => SRow.keep hl (t.trans t' (fun x hx => .inr (hge x hx))) (by simp)) hll hlw hXf hfl⟩
  have HTQ : Hid _ := tQ
  have HQR : Hid _ := hQr
  obtain ⟨x0, x1, x2, x3, x4, x5, x6⟩ := hQb.cells
  generalize plainX l D f = R at *
  generalize hF : fuelW f = F at *
  clear hs ho hl hX hXf hlw hll tQ hQb hQr hF hfl
  go_enter Try.func20, Try.ntmps20
  go_wp2_with fail
  generalize ((w.alloc (.cells #[.int .i64 D.pc, vs, .int .u64 D.l0, .int .u64 D.l1, .int .u64 D.l2, .int .u64 D.l3, vo] 28)).alloc (.cells (outA 0 zWD (.slice none 0 0) (.slice none 0 0) (.slice none 0 0) (.slice none 0 0) 0) 41)) = Q at *
  refine (HWO.out _ HTQ.out).out.mono ?_
  rintro e w1 ⟨vs1, vo1, rfl, o1, u1, n1, t1⟩
  obtain ⟨sa, sc, rfl⟩ := owns_slice o1
  obtain ⟨oa, oc, rfl⟩ := owns_slice u1
  have tC : Touch w1 (w1.alloc (.cells #[.int .i64 D.pc, .slice sa D.st.length sc, .int .u64 D.l0, .int .u64 D.l1, .int .u64 D.l2, .int .u64 D.l3, .slice oa D.out.length oc, .slice ap l.length cp, .int .i64 F] 60)) [] := (Touch.refl w1 []).alloc _
  have HT1 : Hid (Touch w (w1.alloc (.cells #[.int .i64 D.pc, .slice sa D.st.length sc, .int .u64 D.l0, .int .u64 D.l1, .int .u64 D.l2, .int .u64 D.l3, .slice oa D.out.length oc, .slice ap l.length cp, .int .i64 F] 60)) []) := HTQ.out.trans (t1.trans tC (by simp)) (by simp)
  have HTS : Hid (Touch Q (w1.alloc (.cells #[.int .i64 D.pc, .slice sa D.st.length sc, .int .u64 D.l0, .int .u64 D.l1, .int .u64 D.l2, .int .u64 D.l3, .slice oa D.out.length oc, .slice ap l.length cp, .int .i64 F] 60)) []) := t1.trans tC (by simp)
  have hsz1 := t1.size
  have HOW : Hid (WOwn (w1.alloc (.cells #[.int .i64 D.pc, .slice sa D.st.length sc, .int .u64 D.l0, .int .u64 D.l1, .int .u64 D.l2, .int .u64 D.l3, .slice oa D.out.length oc, .slice ap l.length cp, .int .i64 F] 60)) w1.heap.size 0 60 [] (.slice sa D.st.length sc) (.slice oa D.out.length oc) (.slice ap l.length cp) { D with fuel := F }) :=
    ⟨⟨heap_alloc_new w1 _⟩, own_zero (ownsRow_touch o1 tC (by simp)), own_zero (ownsRow_touch u1 tC (by simp)), n1, Nat.zero_le _, fun g hg e => by have := own_lt o1 g hg; omega, fun g hg e => by have := own_lt u1 g hg; omega⟩
  have HGE : Hid (∀ x ∈ w1.heap.size :: (ob (.slice sa D.st.length sc) ++ ob (.slice oa D.out.length oc)), Q.heap.size ≤ x) := fun x hx => by
    simp only [List.mem_cons, List.mem_append] at hx
    rcases hx with rfl | hx | hx
    · exact hsz1
    · exact own_ge o1 x (mem_ob.1 hx)
    · exact own_ge u1 x (mem_ob.1 hx)
  clear HWO x0 x1 x2 x3 x4 x5 x6 tC t1 o1 u1 n1 hsz1
  go_wp2_with fail
  generalize (w1.alloc (.cells #[.int .i64 D.pc, .slice sa D.st.length sc, .int .u64 D.l0, .int .u64 D.l1, .int .u64 D.l2, .int .u64 D.l3, .slice oa D.out.length oc, .slice ap l.length cp, .int .i64 F] 60)) = Q2 at *
  generalize w1.heap.size = b at *
  refine (HTR.out _ _ _ _ HT1.out HOW.out (fun x hx => by have := HGE.out x hx; have := HQS.out; omega)).out.mono ?_
  rintro e w2 ⟨rfl, vs2, vo2, k2, t2, g1', g2'⟩
  obtain ⟨sa2, sc2, rfl⟩ := owns_slice k2.s
  obtain ⟨oa2, oc2, rfl⟩ := owns_slice k2.u
  have hsz2 := HTS.out.size
  have HG1 : Hid (∀ g, (Value.slice sa2 R.2.st.length sc2).ownBlock = some g → Q.heap.size ≤ g) := fun g hg => by
    rcases g1' g hg with q | q
    · exact HGE.out g q
    · omega
  have HG2 : Hid (∀ g, (Value.slice oa2 R.2.out.length oc2).ownBlock = some g → Q.heap.size ≤ g) := fun g hg => by
    rcases g2' g hg with q | q
    · exact HGE.out g q
    · omega
  have hc := k2.o.cells
  obtain ⟨y0, y1, y2, y3, y4, y5, y6, y7, y8⟩ := hc
  have hr := HQR.out.touch (HTS.out.trans t2 (fun x hx => .inr (HGE.out x hx))) (by simp)
  have HR3 : Hid _ := hr
  have HT2 : Hid (Touch w w2 []) := HT1.out.trans t2 (fun x hx => .inr (by have := HGE.out x hx; have := HQS.out; omega))
  have HR12 : Hid _ := k2.s
  have HR22 : Hid _ := k2.u
  have g0 := hr.fr 0
  have k0 := hr.cell 0
  have g1 := hr.fr 1
  have k1 := hr.cell 1
  have g2 := hr.fr 2
  have kk2 := hr.cell 2
  have g3 := hr.fr 3
  have k3 := hr.cell 3
  have g4 := hr.fr 4
  have k4 := hr.cell 4
  have g5 := hr.fr 5
  have k5 := hr.cell 5
  have g6 := hr.fr 6
  have k6 := hr.cell 6
  have g7 := hr.fr 7
  have k7 := hr.cell 7
  have g8 := hr.fr 8
  have k8 := hr.cell 8
  have g9 := hr.fr 9
  have k9 := hr.cell 9
  have g10 := hr.fr 10
  have k10 := hr.cell 10
  simp at k0 k1 kk2 k3 k4 k5 k6 k7 k8 k9 k10
  clear t2 HTR HT1 HTS hr k2 g1' g2' hsz2 HGE HOW
  obtain ⟨⟨kd, er⟩, D2⟩ := R
  simp only at y0 y1 y2 y3 y4 y5 y6 y7 y8
  go_wp2
  have hb2 := HR3.out.put kd D2 (.slice sa2 D2.st.length sc2) (.slice oa2 D2.out.length oc2) (.slice none 0 0) (.slice none 0 0) er
  have t3 := outPut_touch w2 (w.heap.size + 1) kd D2 (.slice sa2 D2.st.length sc2) (.slice oa2 D2.out.length oc2) (.slice none 0 0) (.slice none 0 0) er
  refine bodyPost_ret (v := .agg (outA kd D2 (.slice sa2 D2.st.length sc2) (.slice oa2 D2.out.length oc2) (.slice none 0 0) (.slice none 0 0) er)) ?_ rfl ⟨sa2, sc2, oa2, oc2, rfl, vrow_of (ownsRow_touch HR12.out t3 (fun g hg => by have := HG1.out g hg; have := HQS.out; simp; omega)), vrow_of (ownsRow_touch HR22.out t3 (fun g hg => by have := HG2.out g hg; have := HQS.out; simp; omega)), HT2.out.trans t3 (fun x hx => .inr (by simp at hx; omega)), fun g hg => by have := HG1.out g hg; have := HQS.out; omega, fun g hg => by have := HG2.out g hg; have := HQS.out; omega⟩
  rw [res_cell rfl]
  have p0 := hb2.cell 0
  have p1 := hb2.cell 1
  have p2 := hb2.cell 2
  have p3 := hb2.cell 3
  have p4 := hb2.cell 4
  have p5 := hb2.cell 5
  have p6 := hb2.cell 6
  have p7 := hb2.cell 7
  have p8 := hb2.cell 8
  have p9 := hb2.cell 9
  have p10 := hb2.cell 10
  simp only [outA, List.getElem?_toArray, List.getElem?_cons_zero, List.getElem?_cons_succ] at p0 p1 p2 p3 p4 p5 p6 p7 p8 p9 p10
  simp [go_sem, p0, p1, p2, p3, p4, p5, p6, p7, p8, p9, p10]

end Go.Proofs.Ytlndbligbpfdpaa
