/-
  package spec: Run BY ITS CONTRACT, for a program that is one block and a halt behind it.
-/
import Derived.Test.YtlndbligbpfdpaaSpPlain
import Derived.Deep.RegionHeld3
import Derived.Lib.AppendZeros
import Derived.Deep.MidRow
namespace Go.Proofs.Ytlndbligbpfdpaa
set_option linter.unusedVariables false
set_option linter.unusedSimpArgs false
open Go.RowKit
attribute [local go_sem] Oper.semAt_some

theorem bool_app {w : World} {ao : Option Addr} {cap : Nat} {l : List Bool} (hr : SRow 1 bcell w (.slice ao l.length cap) l) (hn : l.length ≤ 1000) :
    ∃ ao' cap' w', (Builtin.append_ #[39, 39] 39 #[.slice none 0 0, .slice ao l.length cap]).run Try.prog w = .ok (.slice ao' l.length cap') w' ∧ SRow 1 bcell w' (.slice ao' l.length cap') l ∧ Touch w w' [] ∧ (∀ g, (Value.slice ao' l.length cap').ownBlock = some g → w.heap.size ≤ g) := by
  obtain ⟨i0, hi, hz0, hz1, hz2⟩ := info_partsE Try.info_bool
  obtain ⟨v', w', h1, h2, h3, h4⟩ := run_app (P := Try.prog) (cells := bcell) 39 39 4 i0 _ 1 1 Try.underlying39 hi hz0 hz1 hz2 rfl (by decide) (fun _ => rfl) (fun x u hu => by simp [bcell] at hu; subst hu; rfl) (World.ownsRow_nil w w.heap.size _ _) (l := l) hr (by simp; omega) (by decide) (Nat.le_refl _)
  simp only [List.length_nil, Nat.zero_add] at h2 h1
  obtain ⟨ao', cap', rfl⟩ := owns_slice h2
  refine ⟨ao', cap', w', h1, srow_of (cells := bcell) (n := 1) (fun _ => rfl) (by simpa using h2), (Touch.refl w _).grown h3 (fun k hk => by simp [Value.ownBlock] at hk), fun g hg => (World.ownsRow.lt h2 g hg).1⟩

theorem wpList_nameS {P : Program} {ops : Array Oper} {l : List Oper} {Q : Exit → Act → World → Prop} {a : Act} {w : World} (h : ∀ W, W = w → wpList P ops Q l a W) : wpList P ops Q l a w := h w rfl
theorem Try.size_out : (Try.prog.info? 41).map (·.size) = some 11 := by kernel_rfl
theorem out_one (kd : Int) (D : WD) (a1 a2 a3 a4 : Option Addr) (n1 n2 n3 n4 c1 c2 c3 c4 : Nat) (er : Int) : (outA kd D (.slice a1 n1 c1) (.slice a2 n2 c2) (.slice a3 n3 c3) (.slice a4 n4 c4) er).all (·.oneCell') = true := by
  simp [Value.oneCell']
theorem out_there {w : World} {p : Nat} {kd : Int} {D : WD} {vs vo vh va : Value} {er : Int} (h : OutB w p (outA kd D vs vo vh va er)) : w.there p 0 11 := fun j hj => by
  rw [Nat.zero_add]
  refine ⟨?_, h.fr j⟩
  rw [h.cell j]
  match j, hj with
  | 0, _ | 1, _ | 2, _ | 3, _ | 4, _ | 5, _ | 6, _ | 7, _ | 8, _ | 9, _ | 10, _ => rfl
theorem out_sets {w : World} {p : Nat} {kd0 : Int} {D0 : WD} {vs0 vo0 vh0 va0 : Value} {er0 : Int} (h : OutB w p (outA kd0 D0 vs0 vo0 vh0 va0 er0)) (kd : Int) (D : WD) (vs vo vh va : Value) (er : Int) : ∀ W, W = w.setCells p 0 (outA kd D vs vo vh va er).toList → OutB W p (outA kd D vs vo vh va er) ∧ Touch w W [p] := fun W hW => by
  subst hW
  exact ⟨h.put kd D vs vo vh va er, outPut_touch w p kd D vs vo vh va er⟩

theorem run_mid {w W2 W3 : World} {o1 n nh0 sd od hd ad hc : Nat} {sb ob1 hb ab ha : Option Addr} {D : WD} {H : List Int} {am : List Bool} (ham : am.length ≤ 1000) (g1 : OutB W3 o1 (outA 1 D (.slice sb D.st.length sd) (.slice ob1 D.out.length od) (.slice hb H.length hd) (.slice ab am.length ad) 0)) (g2 : OutB W3 n (outA 0 zWD (.slice none 0 0) (.slice none 0 0) (.slice ha nh0 hc) (.slice none 0 0) 0)) (g3 : Touch w W3 []) (g4 : VRow W3 (.slice sb D.st.length sd) D.st) (g5 : VRow W3 (.slice ob1 D.out.length od) D.out) (g6 : VRow W3 (.slice hb H.length hd) H) (g7 : SRow 1 bcell W3 (.slice ab am.length ad) am) (g8 : W2.heap.size ≤ W3.heap.size) (g9 : OutB W3 w.heap.size (outA 0 zWD (.slice none 0 0) (.slice none 0 0) (.slice none 0 0) (.slice none 0 0) 0))
    (z1 : FrA W2 (.slice sb D.st.length sd)) (z2 : FrA W2 (.slice ob1 D.out.length od)) (z3 : FrA W2 (.slice hb H.length hd)) (lo : o1 < W2.heap.size) (ln : n < W2.heap.size) (hne : n ≠ o1) (h1 : w.heap.size < o1) (h2 : w.heap.size < n) :
    ∃ a4 c4 w4, (Builtin.append_ #[39, 39] 39 #[.slice none 0 0, (.slice ab am.length ad)]).run Try.prog W3 = .ok (.slice a4 am.length c4) w4 ∧ OutB w4 o1 (outA 1 D (.slice sb D.st.length sd) (.slice ob1 D.out.length od) (.slice hb H.length hd) (.slice ab am.length ad) 0) ∧ (w4.setCell ⟨o1, 9, none⟩ (.slice a4 am.length c4)).there n 0 11 ∧ ∀ W5, W5 = (w4.setCell ⟨o1, 9, none⟩ (.slice a4 am.length c4)).setCells n 0 (outA 1 D (.slice sb D.st.length sd) (.slice ob1 D.out.length od) (.slice hb H.length hd) (.slice a4 am.length c4) 0).toList → OutB W5 n (outA 1 D (.slice sb D.st.length sd) (.slice ob1 D.out.length od) (.slice hb H.length hd) (.slice a4 am.length c4) 0) ∧ Touch w W5 [] ∧ VRow W5 (.slice sb D.st.length sd) D.st ∧ VRow W5 (.slice ob1 D.out.length od) D.out ∧ VRow W5 (.slice hb H.length hd) H ∧ SRow 1 bcell W5 (.slice a4 am.length c4) am ∧ (∀ g, Value.ownBlock (.slice hb H.length hd) = some g → w.heap.size < g) ∧ (∀ g, Value.ownBlock (.slice a4 am.length c4) = some g → w.heap.size < g) ∧ OutB W5 w.heap.size (outA 0 zWD (.slice none 0 0) (.slice none 0 0) (.slice none 0 0) (.slice none 0 0) 0) := by
  obtain ⟨a4, c4, w4, h4, q5, t4, z5⟩ := bool_app g7 ham
  have t5 : Touch w4 (w4.setCell ⟨o1, 9, none⟩ (.slice a4 am.length c4)) [o1] := (Touch.refl w4 _).setCell (.inl (by simp)) _
  have hn4 := (g2.touch t4 (by simp)).touch t5 (by simp; omega)
  have hz5 : ∀ g, Value.ownBlock (.slice a4 am.length c4) = some g → W3.heap.size ≤ g := z5
  have hw2 := g3.size
  refine ⟨a4, c4, w4, h4, g1.touch t4 (by simp), out_there hn4, fun W5 hW => ?_⟩
  obtain ⟨k1, k2⟩ := out_sets hn4 1 D (.slice sb D.st.length sd) (.slice ob1 D.out.length od) (.slice hb H.length hd) (.slice a4 am.length c4) 0 W5 hW
  have kp : ∀ {m : Nat} {α : Type} {cs : α → List Value} {v : Value} {l : List α}, SRow m cs w4 v l → (∀ g, v.ownBlock = some g → W2.heap.size ≤ g) → SRow m cs W5 v l := fun r z => SRow.keepB (SRow.keepB r t5 (fun _ g hg => by have := z g hg; simp; omega)) k2 (fun _ g hg => by have := z g hg; simp; omega)
  exact ⟨k1, ((g3.trans t4 (by simp)).trans t5 (fun x hx => .inr (by simp at hx; omega))).trans k2 (fun x hx => .inr (by simp at hx; omega)), kp (SRow.keep g4 t4 (by simp)) z1, kp (SRow.keep g5 t4 (by simp)) z2, kp (SRow.keep g6 t4 (by simp)) z3, kp q5 (fun g hg => Nat.le_trans g8 (hz5 g hg)), fun g hg => by have := z3 g hg; omega, fun g hg => by have := hz5 g hg; omega, ((g9.touch t4 (by simp)).touch t5 (by simp; omega)).touch k2 (by simp; omega)⟩

theorem row_lt {α : Type} {m : Nat} {cs : α → List Value} {w : World} {v : Value} {l : List α} (h : SRow m cs w v l) (hne : l ≠ []) (g : Nat) (hg : v.ownBlock = some g) : g < w.heap.size := by
  obtain ⟨ao, cap, rfl, h1⟩ := h
  obtain ⟨g', off, rfl, hlt, _⟩ := h1 hne
  simp only [Value.ownBlock, Option.some.injEq] at hg
  subst hg
  exact hlt
def RunP (w : World) (D : WD) (h : List Int) (am : List Bool) (e : Ending) (w' : World) : Prop := ∃ sa sc oa oc ha hc aa ac, e = .returned (.agg (outA 1 D (.slice sa D.st.length sc) (.slice oa D.out.length oc) (.slice ha h.length hc) (.slice aa am.length ac) 0)) ∧ VRow w' (.slice ha h.length hc) h ∧ SRow 1 bcell w' (.slice aa am.length ac) am ∧ Touch w w' []
set_option maxRecDepth 100000 in
set_option maxHeartbeats 8000000 in
theorem run_two {w : World} {ap : Option Addr} {cp : Nat} {l : List InsD} {ah : Option Addr} {ch : Nat} {h : List Int} (hh : VRow w (.slice ah h.length ch) h) (hl : InsRow w (.slice ap l.length cp) l) (hll : l.length ≤ 1000) (hlw : ∀ i ∈ l, i.Wf) (hS : SWf zWD h) (f : Int) {r : Int × BX} (hr : outX l zWD h f = r) (h0 : r.1 = 0) (ho1 : opAtW l 0 = 21) (ho2 : opAtW l r.2.D.pc = 28) (hst : r.2.D.st.length ≤ 1000) (hot : r.2.D.out.length ≤ 1000) (ham : r.2.arms.length ≤ 1000) :
    Calls Try.prog 18 #[.slice ap l.length cp, .slice ah h.length ch, .int .i64 f] w (RunP w r.2.D r.2.h r.2.arms) := by
  have nil : ∀ W, VRow W (.slice none 0 0) ([] : List Int) := fun W => ⟨none, 0, rfl, fun h => absurd rfl h⟩
  have HCL : Hid (∀ W, Touch w W [] → HidC Try.prog 32 #[.slice ah h.length ch] W (PushP W h)) := fun W t => ⟨sclone_any (SRow.keep hh t (by simp)) (by have := hS.hl; omega)⟩
  have HP1 : Hid (∀ W, Touch w W [] → HidC Try.prog 20 #[.slice ap l.length cp, stV zWD (.slice none 0 0) (.slice none 0 0), .int .i64 f] W (PlnP W 4 zWD)) := fun W t => ⟨plain_at (nil W) (nil W) (SRow.keep hl t (by simp)) (by simp) (by simp) f 4 (.inl ⟨ho1, rfl⟩)⟩
  have HBK : Hid (∀ (W : World) sa sc oa oc ha hc, Touch w W [] → VRow W (.slice sa 0 sc) ([] : List Int) → VRow W (.slice oa 0 oc) ([] : List Int) → VRow W (.slice ha h.length hc) h → HidC Try.prog 15 #[.slice ap l.length cp, stV zWD (.slice sa 0 sc) (.slice oa 0 oc), .slice ha h.length hc, .int .i64 f] W (fun e w' => ∃ sa sc oa oc ha hc aa ac, e = .returned (.agg (outA 1 r.2.D (.slice sa r.2.D.st.length sc) (.slice oa r.2.D.out.length oc) (.slice ha r.2.h.length hc) (.slice aa r.2.arms.length ac) 0)) ∧ VRow w' (.slice sa r.2.D.st.length sc) r.2.D.st ∧ VRow w' (.slice oa r.2.D.out.length oc) r.2.D.out ∧ VRow w' (.slice ha r.2.h.length hc) r.2.h ∧ SRow 1 bcell w' (.slice aa r.2.arms.length ac) r.2.arms ∧ Touch W w' [] ∧ FrA W (.slice sa r.2.D.st.length sc) ∧ FrA W (.slice oa r.2.D.out.length oc) ∧ FrA W (.slice ha r.2.h.length hc) ∧ FrA W (.slice aa r.2.arms.length ac))) := fun W sa sc oa oc ha hc t r1 r2 r3 => ⟨by
    refine (block_fresh (D := zWD) r1 r2 r3 (SRow.keep hl t (by simp)) hll hlw hS f).mono ?_
    rw [hr]
    rintro e w' (⟨_, vs, vo, vh, va, rfl, q1, q2, q3, q4, t', z⟩ | ⟨h1, _⟩)
    · obtain ⟨sa, sc, rfl⟩ := q1.form
      obtain ⟨oa, oc, rfl⟩ := q2.form
      obtain ⟨ha, hc, rfl⟩ := q3.form
      obtain ⟨aa, ac, rfl⟩ := q4.form
      exact ⟨sa, sc, oa, oc, ha, hc, aa, ac, rfl, q1, q2, q3, q4, t', z⟩
    · exact absurd h0 h1⟩
  have HP2 : Hid (∀ (W : World) sa sc oa oc, Touch w W [] → VRow W (.slice sa r.2.D.st.length sc) r.2.D.st → VRow W (.slice oa r.2.D.out.length oc) r.2.D.out → HidC Try.prog 20 #[.slice ap l.length cp, stV r.2.D (.slice sa r.2.D.st.length sc) (.slice oa r.2.D.out.length oc), .int .i64 f] W (PlnP W 1 r.2.D)) := fun W sa sc oa oc t r1 r2 => ⟨plain_at r1 r2 (SRow.keep hl t (by simp)) hst hot f 1 (.inr ⟨ho2, rfl⟩)⟩
  have HAM : Hid _ := ham
  have HR0 : Hid (OutB ((w.alloc (.cells (outA 0 zWD (.slice none 0 0) (.slice none 0 0) (.slice none 0 0) (.slice none 0 0) 0) 41))) w.heap.size (outA 0 zWD (.slice none 0 0) (.slice none 0 0) (.slice none 0 0) (.slice none 0 0) 0)) := ⟨heap_alloc_new w _⟩
  have HT0 : Hid (Touch w (w.alloc (.cells (outA 0 zWD (.slice none 0 0) (.slice none 0 0) (.slice none 0 0) (.slice none 0 0) 0) 41)) []) := (Touch.refl w []).alloc _
  have HQS : Hid ((w.alloc (.cells (outA 0 zWD (.slice none 0 0) (.slice none 0 0) (.slice none 0 0) (.slice none 0 0) 0) 41)).heap.size = w.heap.size + 1) := by show _ = _; simp
  clear hh hl hll hlw hS hr h0 ho1 ho2 hst hot ham nil
  generalize r.2.D = D at *
  generalize r.2.h = H at *
  generalize r.2.arms = am at *
  go_enter Try.func18, Try.ntmps18
  go_wp2_with fail
  generalize (w.alloc (.cells (outA 0 zWD (.slice none 0 0) (.slice none 0 0) (.slice none 0 0) (.slice none 0 0) 0) 41)) = Q at *
  refine (HCL.out _ HT0.out).out.mono ?_
  rintro e w1 ⟨vh, rfl, p1, t1⟩
  obtain ⟨ha, hc, rfl⟩ := owns_slice p1
  have tA : Touch w1 (w1.alloc (.cells (outA 0 zWD (.slice none 0 0) (.slice none 0 0) (.slice ha h.length hc) (.slice none 0 0) 0) 41)) [] := (Touch.refl w1 []).alloc _
  have HN : Hid (OutB (w1.alloc (.cells (outA 0 zWD (.slice none 0 0) (.slice none 0 0) (.slice ha h.length hc) (.slice none 0 0) 0) 41)) w1.heap.size (outA 0 zWD (.slice none 0 0) (.slice none 0 0) (.slice ha h.length hc) (.slice none 0 0) 0)) := ⟨heap_alloc_new w1 _⟩
  have HT1 : Hid (Touch w (w1.alloc (.cells (outA 0 zWD (.slice none 0 0) (.slice none 0 0) (.slice ha h.length hc) (.slice none 0 0) 0) 41)) []) := HT0.out.trans (t1.trans tA (by simp)) (by simp)
  have HU1 : Hid (Touch Q (w1.alloc (.cells (outA 0 zWD (.slice none 0 0) (.slice none 0 0) (.slice ha h.length hc) (.slice none 0 0) 0) 41)) []) := t1.trans tA (by simp)
  have HV1 : Hid (VRow (w1.alloc (.cells (outA 0 zWD (.slice none 0 0) (.slice none 0 0) (.slice ha h.length hc) (.slice none 0 0) 0) 41)) (.slice ha h.length hc) h) := SRow.keep (vrow_of p1) tA (by simp)
  have HNLT : Hid (w.heap.size + 1 ≤ w1.heap.size) := by have := t1.size; have := HQS.out; show _ ≤ _; omega
  have HRB : Hid _ := HR0.out.touch HU1.out (by simp)
  clear HCL t1 tA p1
  go_wp2_with fail
  generalize (w1.alloc (.cells (outA 0 zWD (.slice none 0 0) (.slice none 0 0) (.slice ha h.length hc) (.slice none 0 0) 0) 41)) = W1 at *
  generalize w1.heap.size = n at *
  have hn1 := HN.out
  have xn0 := hn1.cell 0
  have xn1 := hn1.cell 1
  have xn2 := hn1.cell 2
  have xn3 := hn1.cell 3
  have xn4 := hn1.cell 4
  have xn5 := hn1.cell 5
  have xn6 := hn1.cell 6
  have xn7 := hn1.cell 7
  have xn8 := hn1.cell 8
  have xn9 := hn1.cell 9
  have xn10 := hn1.cell 10
  simp only [outA, List.getElem?_toArray, List.getElem?_cons_zero, List.getElem?_cons_succ] at xn0 xn1 xn2 xn3 xn4 xn5 xn6 xn7 xn8 xn9 xn10
  clear hn1
  refine wp_loop_rounds 2 ?_
  rw [rounds_succ]
  go_wp2_with fail
  refine (HP1.out _ HT1.out).out.mono ?_
  rintro e w2 ⟨sa, sc, oa, oc, rfl, q1, q2, t2, _, _⟩
  have tB : Touch w2 (w2.alloc (.cells (outA 4 zWD (.slice sa 0 sc) (.slice oa 0 oc) (.slice none 0 0) (.slice none 0 0) 0) 41)) [] := (Touch.refl w2 []).alloc _
  have HO : Hid (OutB (w2.alloc (.cells (outA 4 zWD (.slice sa 0 sc) (.slice oa 0 oc) (.slice none 0 0) (.slice none 0 0) 0) 41)) w2.heap.size (outA 4 zWD (.slice sa 0 sc) (.slice oa 0 oc) (.slice none 0 0) (.slice none 0 0) 0)) := ⟨heap_alloc_new w2 _⟩
  have hlt := t2.size
  have hnl := lt_of_heap HN.out.st
  have HNE : Hid (n ≠ w2.heap.size) := by show _ ≠ _; omega
  have HNW : Hid (w.heap.size + 1 ≤ n ∧ w.heap.size < w2.heap.size) := by have := HNLT.out; exact ⟨by omega, by omega⟩
  have HT2 : Hid (Touch w (w2.alloc (.cells (outA 4 zWD (.slice sa 0 sc) (.slice oa 0 oc) (.slice none 0 0) (.slice none 0 0) 0) 41)) []) := HT1.out.trans (t2.trans tB (by simp)) (by simp)
  have HU2 : Hid (Touch W1 (w2.alloc (.cells (outA 4 zWD (.slice sa 0 sc) (.slice oa 0 oc) (.slice none 0 0) (.slice none 0 0) 0) 41)) []) := t2.trans tB (by simp)
  have HV2 : Hid _ := SRow.keep HV1.out HU2.out (by simp)
  have HQ1 : Hid _ := SRow.keep q1 tB (by simp)
  have HQ2 : Hid _ := SRow.keep q2 tB (by simp)
  have HRC : Hid _ := HRB.out.touch HU2.out (by simp)
  have hn2 := HN.out.touch HU2.out (by simp)
  have HN2 : Hid _ := hn2
  clear xn0 xn1 xn2 xn3 xn4 xn5 xn6 xn7 xn8 xn9 xn10 hlt hnl t2 tB q1 q2 HP1 HN HV1
  have ym0 := hn2.cell 0
  have ym1 := hn2.cell 1
  have ym2 := hn2.cell 2
  have ym3 := hn2.cell 3
  have ym4 := hn2.cell 4
  have ym5 := hn2.cell 5
  have ym6 := hn2.cell 6
  have ym7 := hn2.cell 7
  have ym8 := hn2.cell 8
  have ym9 := hn2.cell 9
  have ym10 := hn2.cell 10
  simp only [outA, List.getElem?_toArray, List.getElem?_cons_zero, List.getElem?_cons_succ] at ym0 ym1 ym2 ym3 ym4 ym5 ym6 ym7 ym8 ym9 ym10
  have ho := HO.out
  have yo0 := ho.cell 0
  have yo1 := ho.cell 1
  have yo2 := ho.cell 2
  have yo3 := ho.cell 3
  have yo4 := ho.cell 4
  have yo5 := ho.cell 5
  have yo6 := ho.cell 6
  have yo7 := ho.cell 7
  have yo8 := ho.cell 8
  have yo9 := ho.cell 9
  have yo10 := ho.cell 10
  simp only [outA, List.getElem?_toArray, List.getElem?_cons_zero, List.getElem?_cons_succ] at yo0 yo1 yo2 yo3 yo4 yo5 yo6 yo7 yo8 yo9 yo10
  clear hn2 ho
  go_wp2_with fail
  generalize (w2.alloc (.cells (outA 4 zWD (.slice sa 0 sc) (.slice oa 0 oc) (.slice none 0 0) (.slice none 0 0) 0) 41)) = W2 at *
  generalize w2.heap.size = o1 at *
  refine (HBK.out _ _ _ _ _ _ _ HT2.out HQ1.out HQ2.out HV2.out).out.mono ?_
  rintro e w3 ⟨sb, sd, ob1, od, hb, hd, ab, ad, rfl, q1, q2, q3, q4, t3, z1, z2, z3, z4⟩
  have hlo : o1 < W2.heap.size := lt_of_heap HO.out.st
  have hln : n < W2.heap.size := lt_of_heap HN2.out.st
  have ho3 := HO.out.touch t3 (by simp)
  have HTH : Hid _ := out_there ho3
  have HU3 : Hid (∀ v, FrA W2 v → ∀ g, v.ownBlock = some g → g ∉ [o1] ∧ g ∉ [n]) := fun v z g hg => by have := z g hg; simp; omega
  have HT3 : Hid (Touch w w3 []) := HT2.out.trans t3 (by simp)
  have HN3 : Hid _ := HN2.out.touch t3 (by simp)
  have HST : Hid (∀ W3, W3 = w3.setCells o1 0 (outA 1 D (.slice sb D.st.length sd) (.slice ob1 D.out.length od) (.slice hb H.length hd) (.slice ab am.length ad) 0).toList → OutB W3 o1 (outA 1 D (.slice sb D.st.length sd) (.slice ob1 D.out.length od) (.slice hb H.length hd) (.slice ab am.length ad) 0) ∧ OutB W3 n (outA 0 zWD (.slice none 0 0) (.slice none 0 0) (.slice ha h.length hc) (.slice none 0 0) 0) ∧ Touch w W3 [] ∧ VRow W3 (.slice sb D.st.length sd) D.st ∧ VRow W3 (.slice ob1 D.out.length od) D.out ∧ VRow W3 (.slice hb H.length hd) H ∧ SRow 1 bcell W3 (.slice ab am.length ad) am ∧ W2.heap.size ≤ W3.heap.size ∧ OutB W3 w.heap.size (outA 0 zWD (.slice none 0 0) (.slice none 0 0) (.slice none 0 0) (.slice none 0 0) 0)) := fun W3 hW => by
    obtain ⟨g1, g2⟩ := out_sets ho3 1 D (.slice sb D.st.length sd) (.slice ob1 D.out.length od) (.slice hb H.length hd) (.slice ab am.length ad) 0 W3 hW
    exact ⟨g1, HN3.out.touch g2 (by have := HNE.out; simp; omega), HT3.out.trans g2 (fun x hx => .inr (by have := HNW.out; simp at hx; omega)), SRow.keepB q1 g2 (fun _ g hg => (HU3.out _ z1 g hg).1), SRow.keepB q2 g2 (fun _ g hg => (HU3.out _ z2 g hg).1), SRow.keepB q3 g2 (fun _ g hg => (HU3.out _ z3 g hg).1), SRow.keepB q4 g2 (fun _ g hg => (HU3.out _ z4 g hg).1), Nat.le_trans t3.size g2.size, (HRC.out.touch t3 (by simp)).touch g2 (by have := HNW.out; simp; omega)⟩
  have HZ1 : Hid _ := z1
  have HZ2 : Hid _ := z2
  have HZ3 : Hid _ := z3
  have HLL : Hid (o1 < W2.heap.size ∧ n < W2.heap.size) := ⟨hlo, hln⟩
  clear ym0 ym1 ym2 ym3 ym4 ym5 ym6 ym7 ym8 ym9 ym10 yo0 yo1 yo2 yo3 yo4 yo5 yo6 yo7 yo8 yo9 yo10 q1 q2 q3 q4 t3 z1 z2 z3 z4 ho3 hlo hln HBK HO HN2 HT2 HV2 HQ1 HQ2 HN3 HT3
  have HMID : Hid (∀ W3, W3 = w3.setCells o1 0 (outA 1 D (.slice sb D.st.length sd) (.slice ob1 D.out.length od) (.slice hb H.length hd) (.slice ab am.length ad) 0).toList → W3.cell? ⟨n, 9, none⟩ = some (.slice none 0 0) ∧ W3.cell? ⟨o1, 9, none⟩ = some (.slice ab am.length ad) ∧ ∃ a4 c4 w4, (Builtin.append_ #[39, 39] 39 #[.slice none 0 0, (.slice ab am.length ad)]).run Try.prog W3 = .ok (.slice a4 am.length c4) w4 ∧ OutB w4 o1 (outA 1 D (.slice sb D.st.length sd) (.slice ob1 D.out.length od) (.slice hb H.length hd) (.slice ab am.length ad) 0) ∧ (w4.setCell ⟨o1, 9, none⟩ (.slice a4 am.length c4)).there n 0 11 ∧ ∀ W5, W5 = (w4.setCell ⟨o1, 9, none⟩ (.slice a4 am.length c4)).setCells n 0 (outA 1 D (.slice sb D.st.length sd) (.slice ob1 D.out.length od) (.slice hb H.length hd) (.slice a4 am.length c4) 0).toList → OutB W5 n (outA 1 D (.slice sb D.st.length sd) (.slice ob1 D.out.length od) (.slice hb H.length hd) (.slice a4 am.length c4) 0) ∧ Touch w W5 [] ∧ VRow W5 (.slice sb D.st.length sd) D.st ∧ VRow W5 (.slice ob1 D.out.length od) D.out ∧ VRow W5 (.slice hb H.length hd) H ∧ SRow 1 bcell W5 (.slice a4 am.length c4) am ∧ (∀ g, Value.ownBlock (.slice hb H.length hd) = some g → w.heap.size < g) ∧ (∀ g, Value.ownBlock (.slice a4 am.length c4) = some g → w.heap.size < g) ∧ OutB W5 w.heap.size (outA 0 zWD (.slice none 0 0) (.slice none 0 0) (.slice none 0 0) (.slice none 0 0) 0)) := fun W3 hW3 => by
    obtain ⟨g1, g2, g3, g4, g5, g6, g7, g8, g9⟩ := HST.out W3 hW3
    exact ⟨g2.cell 9, g1.cell 9, run_mid HAM.out g1 g2 g3 g4 g5 g6 g7 g8 g9 HZ1.out HZ2.out HZ3.out HLL.out.1 HLL.out.2 HNE.out (by have := HNW.out; omega) (by have := HNW.out; omega)⟩
  clear HST HZ1 HZ2 HZ3 HU3
  go_wp2_with (first
    | (refine wpList_store_mid rfl 41 _ _ rfl o1 0 (outA 1 D (.slice sb D.st.length sd) (.slice ob1 D.out.length od) (.slice hb H.length hd) (.slice ab am.length ad) 0) rfl rfl HTH.out Try.size_out (out_one _ _ _ _ _ _ _ _ _ _ _ _ _ _ _) ?_; refine wpList_nameS fun W3 hW3 => ?_; obtain ⟨m9, p9, a4, c4, w4, h4, e1, e2, e3⟩ := HMID.out W3 hW3; have f9 := e1.fr 9; have k0 := e1.cell 0; have k1 := e1.cell 1; have k2 := e1.cell 2; have k3 := e1.cell 3; have k4 := e1.cell 4; have k5 := e1.cell 5; have k6 := e1.cell 6; have k7 := e1.cell 7; have k8 := e1.cell 8; have k9 := e1.cell 9; have k10 := e1.cell 10; simp only [outA, List.getElem?_toArray, List.getElem?_cons_zero, List.getElem?_cons_succ] at k0 k1 k2 k3 k4 k5 k6 k7 k8 k9 k10; have HTH2 : Hid _ := e2; have HST2 : Hid _ := e3; clear hW3 HMID HTH e1 e2 e3)
    | (at_builtin; refine Lib.wpList_append_run _ rfl _ _ _ _ rfl _ _ rfl rfl _ _ h4 ?_; clear h4)
    | (refine wpList_store_mid rfl 41 _ _ rfl n 0 (outA 1 D (.slice sb D.st.length sd) (.slice ob1 D.out.length od) (.slice hb H.length hd) (.slice a4 am.length c4) 0) rfl rfl HTH2.out Try.size_out (out_one _ _ _ _ _ _ _ _ _ _ _ _ _ _ _) ?_; refine wpList_nameS fun W5 hW5 => ?_; have H5 : Hid _ := HST2.out W5 hW5; clear hW5 HST2 HTH2 k0 k1 k2 k3 k4 k5 k6 k7 k8 k9 k10 m9 p9 f9))
  rw [rounds_succ]
  obtain ⟨e1, e2, e3, e4, e5, e6, e7, e8, e9⟩ := H5.out
  have E9 : Hid _ := e9
  have E1 : Hid _ := e1
  have E2 : Hid _ := e2
  have E5 : Hid _ := e5
  have E6 : Hid _ := e6
  have E7 : Hid _ := e7
  have E8 : Hid _ := e8
  have HPP : Hid (HidC _ _ _ _ _) := HP2.out W5 sb sd ob1 od e2 e3 e4
  have xn0 := e1.cell 0
  have xn1 := e1.cell 1
  have xn2 := e1.cell 2
  have xn3 := e1.cell 3
  have xn4 := e1.cell 4
  have xn5 := e1.cell 5
  have xn6 := e1.cell 6
  have xn7 := e1.cell 7
  have xn8 := e1.cell 8
  have xn9 := e1.cell 9
  have xn10 := e1.cell 10
  simp only [outA, List.getElem?_toArray, List.getElem?_cons_zero, List.getElem?_cons_succ] at xn0 xn1 xn2 xn3 xn4 xn5 xn6 xn7 xn8 xn9 xn10
  clear e1 e2 e3 e4 e5 e6 e7 e8 e9 H5 HP2
  go_wp2_with fail
  refine HPP.out.out.mono ?_
  rintro e w6 ⟨s6, c6, o6, d6, rfl, q1, q2, t6, y1, y2⟩
  have tB : Touch w6 (w6.alloc (.cells (outA 1 D (.slice s6 D.st.length c6) (.slice o6 D.out.length d6) (.slice none 0 0) (.slice none 0 0) 0) 41)) [] := (Touch.refl w6 []).alloc _
  have HO2 : Hid (OutB (w6.alloc (.cells (outA 1 D (.slice s6 D.st.length c6) (.slice o6 D.out.length d6) (.slice none 0 0) (.slice none 0 0) 0) 41)) w6.heap.size (outA 1 D (.slice s6 D.st.length c6) (.slice o6 D.out.length d6) (.slice none 0 0) (.slice none 0 0) 0)) := ⟨heap_alloc_new w6 _⟩
  have HT6 : Hid (Touch w (w6.alloc (.cells (outA 1 D (.slice s6 D.st.length c6) (.slice o6 D.out.length d6) (.slice none 0 0) (.slice none 0 0) 0) 41)) []) := E2.out.trans (t6.trans tB (by simp)) (by simp)
  have hn6 := (E1.out.touch (t6.trans tB (by simp)) (by simp))
  have hl5 := t6.size
  have hln5 := lt_of_heap E1.out.st
  have E55 : Hid _ := SRow.keep E5.out (t6.trans tB (by simp)) (by simp)
  have E66 : Hid _ := SRow.keep E6.out (t6.trans tB (by simp)) (by simp)
  have HR6 : Hid (OutB (w6.alloc (.cells (outA 1 D (.slice s6 D.st.length c6) (.slice o6 D.out.length d6) (.slice none 0 0) (.slice none 0 0) 0) 41)) w.heap.size (outA 0 zWD (.slice none 0 0) (.slice none 0 0) (.slice none 0 0) (.slice none 0 0) 0)) := E9.out.touch (t6.trans tB (by simp)) (by simp)
  have EL5 : Hid (H ≠ [] → ∀ g, Value.ownBlock (.slice hb H.length hd) = some g → g < w6.heap.size) := fun hne g hg => by have := row_lt E5.out hne g hg; omega
  have EL6 : Hid (am ≠ [] → ∀ g, Value.ownBlock (.slice a4 am.length c4) = some g → g < w6.heap.size) := fun hne g hg => by have := row_lt E6.out hne g hg; omega
  have HLT6 : Hid (w.heap.size < w6.heap.size ∧ n ≠ w6.heap.size) := by have := HNW.out; exact ⟨by omega, by omega⟩
  have HN6 : Hid _ := hn6
  clear xn0 xn1 xn2 xn3 xn4 xn5 xn6 xn7 xn8 xn9 xn10 HPP E1 E2 E5 E6 q1 q2 t6 y1 y2 tB hn6 hl5 hln5 HR0
  have ho := HO2.out
  have yo0 := ho.cell 0
  have yo1 := ho.cell 1
  have yo2 := ho.cell 2
  have yo3 := ho.cell 3
  have yo4 := ho.cell 4
  have yo5 := ho.cell 5
  have yo6 := ho.cell 6
  have yo7 := ho.cell 7
  have yo8 := ho.cell 8
  have yo9 := ho.cell 9
  have yo10 := ho.cell 10
  simp only [outA, List.getElem?_toArray, List.getElem?_cons_zero, List.getElem?_cons_succ] at yo0 yo1 yo2 yo3 yo4 yo5 yo6 yo7 yo8 yo9 yo10
  have g8 := ho.fr 8
  have g9 := ho.fr 9
  clear ho
  go_wp2_with fail
  generalize (w6.alloc (.cells (outA 1 D (.slice s6 D.st.length c6) (.slice o6 D.out.length d6) (.slice none 0 0) (.slice none 0 0) 0) 41)) = W6 at *
  generalize w6.heap.size = o2 at *
  have hdw : Touch W6 W6.drew [] := (Touch.refl W6 []).drew
  have HS : Hid (∀ W', Touch W6 W' [o2] → W'.cell? ⟨n, 8, none⟩ = some (.slice hb H.length hd) ∧ W'.cell? ⟨n, 9, none⟩ = some (.slice a4 am.length c4)) := fun W' t => ⟨(HN6.out.touch t (by have := HLT6.out; simp; omega)).cell 8, (HN6.out.touch t (by have := HLT6.out; simp; omega)).cell 9⟩
  have tW : Touch W6 ((W6.setCell ⟨o2, 8, none⟩ (.slice hb H.length hd)).setCell ⟨o2, 9, none⟩ (.slice a4 am.length c4)).drew [o2] := (((Touch.refl W6 [o2]).setCell (.inl (by simp)) _).setCell (.inl (by simp)) _).drew
  have hr7 := HR6.out.touch tW (by have := HLT6.out; simp; omega)
  have HTH3 : Hid _ := out_there hr7
  have hl6 : ∀ v, FrA w v → ∀ g, v.ownBlock = some g → w.heap.size ≤ g := fun v z g hg => z g hg
  have HEND : Hid (∀ W8, W8 = ((W6.setCell ⟨o2, 8, none⟩ (.slice hb H.length hd)).setCell ⟨o2, 9, none⟩ (.slice a4 am.length c4)).drew.setCells w.heap.size 0 (outA 1 D (.slice s6 D.st.length c6) (.slice o6 D.out.length d6) (.slice hb H.length hd) (.slice a4 am.length c4) 0).toList → OutB W8 w.heap.size (outA 1 D (.slice s6 D.st.length c6) (.slice o6 D.out.length d6) (.slice hb H.length hd) (.slice a4 am.length c4) 0) ∧ RunP w D H am (.returned (.agg (outA 1 D (.slice s6 D.st.length c6) (.slice o6 D.out.length d6) (.slice hb H.length hd) (.slice a4 am.length c4) 0))) W8) := fun W8 hW => by
    obtain ⟨k1, k2⟩ := out_sets hr7 1 D (.slice s6 D.st.length c6) (.slice o6 D.out.length d6) (.slice hb H.length hd) (.slice a4 am.length c4) 0 W8 hW
    have kV : VRow W8 (.slice hb H.length hd) H := SRow.keepB (SRow.keepB E55.out tW (fun hne g hg => by have := EL5.out hne g hg; simp; omega)) k2 (fun hne g hg => by have := E7.out g hg; simp; omega)
    have kA : SRow 1 bcell W8 (.slice a4 am.length c4) am := SRow.keepB (SRow.keepB E66.out tW (fun hne g hg => by have := EL6.out hne g hg; simp; omega)) k2 (fun hne g hg => by have := E8.out g hg; simp; omega)
    exact ⟨k1, s6, c6, o6, d6, hb, hd, a4, c4, rfl, kV, kA, (HT6.out.trans tW (fun x hx => .inr (by have := HLT6.out; simp at hx; omega))).trans k2 (fun x hx => .inr (by simp at hx; omega))⟩
  go_region_held3 (fun W' => W'.cell? ⟨n, 8, none⟩ = some (.slice hb H.length hd) ∧ W'.cell? ⟨n, 9, none⟩ = some (.slice a4 am.length c4)) ((first | exact HS.out _ (hdw.mono (by simp)) | exact HS.out _ ((hdw.mono (by simp)).setCell (.inl (by simp)) _) | exact HS.out _ (((hdw.mono (by simp)).setCell (.inl (by simp)) _).setCell (.inl (by simp)) _))) (fail)
  rename_i hHeld
  clear hHeld tW hr7 hl6
  go_wp2_with (refine wpList_store_mid rfl 41 _ _ rfl w.heap.size 0 (outA 1 D (.slice s6 D.st.length c6) (.slice o6 D.out.length d6) (.slice hb H.length hd) (.slice a4 am.length c4) 0) rfl rfl HTH3.out Try.size_out (out_one _ _ _ _ _ _ _ _ _ _ _ _ _ _ _) ?_; refine wpList_nameS fun W8 hW8 => ?_; have H8 : Hid _ := HEND.out W8 hW8; clear hW8 HEND HTH3)
  obtain ⟨b8, r8⟩ := H8.out
  refine bodyPost_ret (v := .agg (outA 1 D (.slice s6 D.st.length c6) (.slice o6 D.out.length d6) (.slice hb H.length hd) (.slice a4 am.length c4) 0)) ?_ rfl r8
  rw [res_cell rfl]
  have p0 := b8.cell 0
  have p1 := b8.cell 1
  have p2 := b8.cell 2
  have p3 := b8.cell 3
  have p4 := b8.cell 4
  have p5 := b8.cell 5
  have p6 := b8.cell 6
  have p7 := b8.cell 7
  have p8 := b8.cell 8
  have p9 := b8.cell 9
  have p10 := b8.cell 10
  simp only [outA, List.getElem?_toArray, List.getElem?_cons_zero, List.getElem?_cons_succ] at p0 p1 p2 p3 p4 p5 p6 p7 p8 p9 p10
  simp [go_sem, p0, p1, p2, p3, p4, p5, p6, p7, p8, p9, p10]

end Go.Proofs.Ytlndbligbpfdpaa
