/-
  SpecNothing, WALKED.
-/
import Derived.Test.YtlndbligbpfdpaaSnState
import Derived.Deep.QuietTactic
import Derived.BigQuiet
import Derived.Deep.RegionHeld3
namespace Go.Proofs.Ytlndbligbpfdpaa
set_option linter.unusedVariables false
set_option linter.unusedSimpArgs false
open Go.RowKit
attribute [local go_sem] Oper.semAt_some

theorem vrow_slice {w : World} {v : Value} {l : List Int} (h : VRow w v l) : ∃ ao cap, v = .slice ao l.length cap := by
  obtain ⟨ao, cap, e, _⟩ := h
  exact ⟨ao, cap, e⟩
theorem brow_slice {w : World} {v : Value} {l : List Bool} (h : SRow 1 bcell w v l) : ∃ ao cap, v = .slice ao l.length cap := by
  obtain ⟨ao, cap, e, _⟩ := h
  exact ⟨ao, cap, e⟩
theorem sn_ways {w w3 : World} {r : Int × BX} {D : WD} {h : List Int} {e : Ending} (hn : r.2.h.length = h.length) (k : BlkP w r D h e w3) :
    (∃ E sb ns sd ob1 no od hb1 hd ab na ad, e = .returned (.agg (outA 1 E (.slice sb ns sd) (.slice ob1 no od) (.slice hb1 h.length hd) (.slice ab na ad) 0)) ∧ Touch w w3 []) ∨
    (∃ kd er sb sd ob1 od hb1 hd, e = .returned (.agg (outA kd D (.slice sb D.st.length sd) (.slice ob1 D.out.length od) (.slice hb1 h.length hd) (.slice none 0 0) er)) ∧ ((kd = 2 ∧ er = 0) ∨ (kd = 3 ∧ er ≠ 0)) ∧ VRow w3 (.slice sb D.st.length sd) D.st ∧ VRow w3 (.slice ob1 D.out.length od) D.out ∧ VRow w3 (.slice hb1 h.length hd) h ∧ Touch w w3 []) := by
  rcases k with ⟨_, vs, vo, vh, va, rfl, r1, r2, r3, r4, t⟩ | ⟨h0, vs, vo, vh, rfl, r1, r2, r3, t⟩
  · obtain ⟨a1, c1, rfl⟩ := vrow_slice r1
    obtain ⟨a2, c2, rfl⟩ := vrow_slice r2
    obtain ⟨a3, c3, rfl⟩ := vrow_slice r3
    obtain ⟨a4, c4, rfl⟩ := brow_slice r4
    rw [hn]
    exact .inl ⟨_, _, _, _, _, _, _, _, _, _, _, _, rfl, t⟩
  · obtain ⟨a1, c1, rfl⟩ := vrow_slice r1
    obtain ⟨a2, c2, rfl⟩ := vrow_slice r2
    obtain ⟨a3, c3, rfl⟩ := vrow_slice r3
    refine .inr ⟨_, _, _, _, _, _, _, _, rfl, ?_, r1, r2, r3, t⟩
    by_cases hm : r.1 = -1
    · rw [if_pos hm, if_pos hm]; exact .inl ⟨rfl, rfl⟩
    · rw [if_neg hm, if_neg hm]; exact .inr ⟨rfl, h0⟩

set_option maxRecDepth 100000 in
set_option maxHeartbeats 4000000 in
theorem specnothing_cut {w : World} {ap sa oa ah : Option Addr} {N NS NO NH cp sc oc ch : Nat} {l : List InsD} {D : WD} {h : List Int}
    (hf : ∀ W, Calls Try.prog 9 #[.slice ap N cp] W fun e w' => e = .returned (.slice ap l.length cp) ∧ w' = W)
    (hs : ∀ W, Calls Try.prog 10 #[stV D (.slice sa NS sc) (.slice oa NO oc)] W fun e w' => e = .returned (stV D (.slice sa D.st.length sc) (.slice oa D.out.length oc)) ∧ Touch W w' [])
    (hh : ∀ W, Calls Try.prog 14 #[.slice ah NH ch] W fun e w' => e = .returned (.slice ah h.length ch) ∧ w' = W)
    (rl : InsRow w (.slice ap l.length cp) l) (rs : VRow w (.slice sa D.st.length sc) D.st) (ro : VRow w (.slice oa D.out.length oc) D.out) (rh : VRow w (.slice ah h.length ch) h)
    (hll : l.length ≤ 64) (hlw : ∀ i ∈ l, i.Wf) (hS : SWf D h) :
    Calls Try.prog 4 #[.slice ap N cp, stV D (.slice sa NS sc) (.slice oa NO oc), .slice ah NH ch] w fun e w' => e = .returned (.bool true) ∧ Touch w w' [] := by
  have HF : Hid (∀ W, HidC _ _ _ _ _) := fun W => ⟨hf W⟩
  have HS : Hid (∀ W, HidC _ _ _ _ _) := fun W => ⟨hs W⟩
  have HH : Hid (∀ W, HidC _ _ _ _ _) := fun W => ⟨hh W⟩
  have HB : Hid (∀ W, Touch w W [] → HidC Try.prog 15 #[.slice ap l.length cp, stV D (.slice sa D.st.length sc) (.slice oa D.out.length oc), .slice ah h.length ch, .int .i64 100] W (BlkP W (outX l D h 100) D h)) := fun W t => ⟨(block_fresh (SRow.keep rs t (by simp)) (SRow.keep ro t (by simp)) (SRow.keep rh t (by simp)) (SRow.keep rl t (by simp)) (by omega) hlw hS 100).mono fun _ _ k => k.p⟩
  have HR : Hid (VRow w (.slice sa D.st.length sc) D.st ∧ VRow w (.slice oa D.out.length oc) D.out ∧ VRow w (.slice ah h.length ch) h) := ⟨rs, ro, rh⟩
  have HSW : Hid (SWf D h) := hS
  clear hf hs hh rl rs ro rh hll hlw hS
  have T0 : Hid (Touch w (w.alloc (.cells #[.int .i64 D.pc, .slice sa NS sc, .int .u64 D.l0, .int .u64 D.l1, .int .u64 D.l2, .int .u64 D.l3, .slice oa NO oc] 28)) []) := (Touch.refl w []).alloc _
  have B0 : Hid (StB (w.alloc (.cells #[.int .i64 D.pc, .slice sa NS sc, .int .u64 D.l0, .int .u64 D.l1, .int .u64 D.l2, .int .u64 D.l3, .slice oa NO oc] 28)) w.heap.size D (.slice sa NS sc) (.slice oa NO oc)) := ⟨heap_alloc_new w _⟩
  go_enter Try.func4, Try.ntmps4
  go_wp2_with fail
  obtain ⟨x0, x1, x2, x3, x4, x5, x6⟩ := B0.out.cells
  generalize (w.alloc (.cells #[.int .i64 D.pc, .slice sa NS sc, .int .u64 D.l0, .int .u64 D.l1, .int .u64 D.l2, .int .u64 D.l3, .slice oa NO oc] 28)) = Q at *
  generalize hb : w.heap.size = b at *
  have HBB : Hid (b = w.heap.size) := hb.symm
  clear hb
  refine wp_region_held_drew (S := (fun _ : World => True)) (by kernel_rfl) trivial (fun hHeld => ?_)
  try simp only [Act.put, List.getElem_toArray, List.getElem_cons_succ, List.getElem_cons_zero, List.setIfInBounds_toArray, List.set_cons_zero, List.set_cons_succ]
  refine wpAnyH_take (i := 0) (v := (.slice ap N cp)) rfl (by kernel_rfl) (by kernel_rfl) (by kernel_rfl) (fun _ _ _ h => h) (Or.inl ⟨by rfl, ?_⟩) hHeld ?_
  · intro w' hSw
    try simp only [Act.put, List.getElem_toArray, List.getElem_cons_succ, List.getElem_cons_zero, List.setIfInBounds_toArray, List.set_cons_zero, List.set_cons_succ]
    go_simp
  try simp only [Act.put, List.getElem_toArray, List.getElem_cons_succ, List.getElem_cons_zero, List.setIfInBounds_toArray, List.set_cons_zero, List.set_cons_succ]
  refine wpAnyH_take (i := 4) (v := (.slice ah NH ch)) rfl (by kernel_rfl) (by kernel_rfl) (by kernel_rfl) (fun _ _ _ h => h) (Or.inl ⟨by rfl, ?_⟩) hHeld ?_
  · intro w' hSw
    try simp only [Act.put, List.getElem_toArray, List.getElem_cons_succ, List.getElem_cons_zero, List.setIfInBounds_toArray, List.set_cons_zero, List.set_cons_succ]
    go_simp
  try simp only [Act.put, List.getElem_toArray, List.getElem_cons_succ, List.getElem_cons_zero, List.setIfInBounds_toArray, List.set_cons_zero, List.set_cons_succ]
  clear hHeld
  refine wpAnyH_ready (rs := [1, 2]) (by kernel_rfl) (by simp) (AllReadyH.cons rfl (fun K hK => ?_) (AllReadyH.cons rfl (fun K hK => ?_) (AllReadyH.nil)))
  · rw [if_pos (by rfl)]
    go_simp
    refine (HF.out _).out.mono ?_
    rintro e wf ⟨rfl, rfl⟩
    go_simp
    refine hK.out _ _ trivial (fun hHeld => ?_)
    clear hK
    try simp only [Act.put, List.getElem_toArray, List.getElem_cons_succ, List.getElem_cons_zero, List.setIfInBounds_toArray, List.set_cons_zero, List.set_cons_succ]
    clear hHeld
    refine wpAnyH_ready (rs := [2]) (by kernel_rfl) (by simp) (AllReadyH.cons rfl (fun K hK => ?_) (AllReadyH.nil))
    rw [if_pos (by rfl)]
    go_simp
    refine hK.out _ _ trivial (fun hHeld => ?_)
    clear hK
    try simp only [Act.put, List.getElem_toArray, List.getElem_cons_succ, List.getElem_cons_zero, List.setIfInBounds_toArray, List.set_cons_zero, List.set_cons_succ]
    clear hHeld
    refine wpAnyH_ready (rs := [3]) (by kernel_rfl) (by simp) (AllReadyH.cons rfl (fun K hK => ?_) (AllReadyH.nil))
    rw [if_pos (by rfl)]
    go_simp
    refine (HS.out _).out.mono ?_
    rintro e w1 ⟨rfl, t1⟩
    go_simp
    refine hK.out _ _ trivial (fun hHeld => ?_)
    clear hK
    try simp only [Act.put, List.getElem_toArray, List.getElem_cons_succ, List.getElem_cons_zero, List.setIfInBounds_toArray, List.set_cons_zero, List.set_cons_succ]
    clear hHeld
    refine wpAnyH_ready (rs := [5]) (by kernel_rfl) (by simp) (AllReadyH.cons rfl (fun K hK => ?_) (AllReadyH.nil))
    rw [if_pos (by rfl)]
    go_simp
    refine (HH.out _).out.mono ?_
    rintro e w1 ⟨rfl, rfl⟩
    go_simp
    refine hK.out _ _ trivial (fun hHeld => ?_)
    clear hK
    try simp only [Act.put, List.getElem_toArray, List.getElem_cons_succ, List.getElem_cons_zero, List.setIfInBounds_toArray, List.set_cons_zero, List.set_cons_succ]
    replace t1 : Touch Q w1 [] := ((Touch.refl Q []).drew).trans t1 (by simp)
    have T1 : Hid (Touch Q w1 []) := t1
    have B1 := B0.out.touch t1 (by simp)
    have HB1 : Hid _ := B1
    obtain ⟨y0, y1, y2, y3, y4, y5, y6⟩ := B1.cells
    have g0 := B1.fr 0
    have g1 := B1.fr 1
    have g2 := B1.fr 2
    have g3 := B1.fr 3
    have g4 := B1.fr 4
    have g5 := B1.fr 5
    have g6 := B1.fr 6
    clear x0 x1 x2 x3 x4 x5 x6 t1 B1
    refine wpAnyH_take (i := 6) (v := (.slice ap l.length cp)) rfl (by kernel_rfl) (by kernel_rfl) (by kernel_rfl) (fun _ _ _ h => h) (Or.inl ⟨by rfl, ?_⟩) hHeld ?_
    · intro w' hSw
      try simp only [Act.put, List.getElem_toArray, List.getElem_cons_succ, List.getElem_cons_zero, List.setIfInBounds_toArray, List.set_cons_zero, List.set_cons_succ]
      go_simp
    try simp only [Act.put, List.getElem_toArray, List.getElem_cons_succ, List.getElem_cons_zero, List.setIfInBounds_toArray, List.set_cons_zero, List.set_cons_succ]
    clear hHeld
    refine wpAnyH_ready (rs := [7]) (by kernel_rfl) (by simp) (AllReadyH.cons rfl (fun K hK => ?_) (AllReadyH.nil))
    rw [if_pos (by rfl)]
    go_simp
    refine hK.out _ _ trivial (fun hHeld => ?_)
    clear hK
    try simp only [Act.put, List.getElem_toArray, List.getElem_cons_succ, List.getElem_cons_zero, List.setIfInBounds_toArray, List.set_cons_zero, List.set_cons_succ]
    refine wpAnyH_take (i := 8) (v := (.slice ah h.length ch)) rfl (by kernel_rfl) (by kernel_rfl) (by kernel_rfl) (fun _ _ _ h => h) (Or.inl ⟨by rfl, ?_⟩) hHeld ?_
    · intro w' hSw
      try simp only [Act.put, List.getElem_toArray, List.getElem_cons_succ, List.getElem_cons_zero, List.setIfInBounds_toArray, List.set_cons_zero, List.set_cons_succ]
      go_simp
    try simp only [Act.put, List.getElem_toArray, List.getElem_cons_succ, List.getElem_cons_zero, List.setIfInBounds_toArray, List.set_cons_zero, List.set_cons_succ]
    clear hHeld
    refine wpAnyH_done (by kernel_rfl) ?_ _
    have HP : Hid (StB (((((((w1.setCell ⟨b, 0, none⟩ (.int .i64 D.pc)).setCell ⟨b, 1, none⟩ (.slice sa D.st.length sc)).setCell ⟨b, 2, none⟩ (.int .u64 D.l0)).setCell ⟨b, 3, none⟩ (.int .u64 D.l1)).setCell ⟨b, 4, none⟩ (.int .u64 D.l2)).setCell ⟨b, 5, none⟩ (.int .u64 D.l3)).setCell ⟨b, 6, none⟩ (.slice oa D.out.length oc)) b D (.slice sa D.st.length sc) (.slice oa D.out.length oc) ∧ Touch w (((((((w1.setCell ⟨b, 0, none⟩ (.int .i64 D.pc)).setCell ⟨b, 1, none⟩ (.slice sa D.st.length sc)).setCell ⟨b, 2, none⟩ (.int .u64 D.l0)).setCell ⟨b, 3, none⟩ (.int .u64 D.l1)).setCell ⟨b, 4, none⟩ (.int .u64 D.l2)).setCell ⟨b, 5, none⟩ (.int .u64 D.l3)).setCell ⟨b, 6, none⟩ (.slice oa D.out.length oc)) []) := ⟨HB1.out.put D _ _, (T0.out.trans T1.out (by simp)).trans (stPut_touch _ _ _ _ _) (fun x hx => .inr (by simp at hx; have := HBB.out; omega))⟩
    clear y0 y1 y2 y3 y4 y5 y6 g0 g1 g2 g3 g4 g5 g6 HB1 T1 T0 HF HS HH B0
    generalize (((((((w1.setCell ⟨b, 0, none⟩ (.int .i64 D.pc)).setCell ⟨b, 1, none⟩ (.slice sa D.st.length sc)).setCell ⟨b, 2, none⟩ (.int .u64 D.l0)).setCell ⟨b, 3, none⟩ (.int .u64 D.l1)).setCell ⟨b, 4, none⟩ (.int .u64 D.l2)).setCell ⟨b, 5, none⟩ (.int .u64 D.l3)).setCell ⟨b, 6, none⟩ (.slice oa D.out.length oc)) = Q2 at *
    obtain ⟨x0, x1, x2, x3, x4, x5, x6⟩ := HP.out.1.cells
    go_wp2_with fail
    refine (HB.out _ HP.out.2).out.mono ?_
    intro e w3 hbk
    rcases sn_ways (out_len l D h 100) hbk with ⟨E, sb, ns, sd, ob1, no, od, hb1, hd, ab, na, ad, rfl, t3⟩ | ⟨kd, er, sb, sd, ob1, od, hb1, hd, rfl, hke, r1, r2, r3, t3⟩
    · have ho : OutB (w3.alloc (.cells (outA 0 zWD (.slice none 0 0) (.slice none 0 0) (.slice none 0 0) (.slice none 0 0) 0) 41)) w3.heap.size (outA 0 zWD (.slice none 0 0) (.slice none 0 0) (.slice none 0 0) (.slice none 0 0) 0) := ⟨heap_alloc_new w3 _⟩
      have HTH : Hid _ := out_there ho
      have HMID : Hid (∀ W4, W4 = (w3.alloc (.cells (outA 0 zWD (.slice none 0 0) (.slice none 0 0) (.slice none 0 0) (.slice none 0 0) 0) 41)).setCells w3.heap.size 0 (outA 1 E (.slice sb ns sd) (.slice ob1 no od) (.slice hb1 h.length hd) (.slice ab na ad) 0).toList → OutB W4 w3.heap.size (outA 1 E (.slice sb ns sd) (.slice ob1 no od) (.slice hb1 h.length hd) (.slice ab na ad) 0) ∧ Touch w W4 []) := fun W4 hW4 => by
        obtain ⟨g1, g2⟩ := out_sets ho 1 E (.slice sb ns sd) (.slice ob1 no od) (.slice hb1 h.length hd) (.slice ab na ad) 0 W4 hW4
        exact ⟨g1, (((HP.out.2.trans t3 (by simp)).alloc _).trans g2 (fun z hz => .inr (by simp at hz; have := (HP.out.2.trans t3 (by simp)).size; omega)))⟩
      clear ho t3 hbk HB HR HSW x0 x1 x2 x3 x4 x5 x6 HP
      go_wp2_with (refine wpList_store_mid rfl 41 _ _ rfl w3.heap.size 0 (outA 1 E (.slice sb ns sd) (.slice ob1 no od) (.slice hb1 h.length hd) (.slice ab na ad) 0) rfl rfl HTH.out Try.size_out (out_one _ _ _ _ _ _ _ _ _ _ _ _ _ _ _) ?_; refine wpList_nameS fun W4 hW4 => ?_; obtain ⟨e1, e2⟩ := HMID.out W4 hW4; have HE1 : Hid _ := e1; have HE2 : Hid _ := e2; have c0 := e1.cell 0; simp only [outA, List.getElem?_toArray, List.getElem?_cons_zero, List.getElem?_cons_succ] at c0; clear hW4 e1 e2 HMID HTH)
      refine (splive_any _).mono ?_
      rintro e w5 ⟨rfl, t5⟩
      have o5 := HE1.out.touch t5 (by simp)
      have T5 : Hid (Touch w w5 []) := HE2.out.trans t5 (by simp)
      have c10 := o5.cell 10
      have c8 := o5.cell 8
      simp only [outA, List.getElem?_toArray, List.getElem?_cons_zero, List.getElem?_cons_succ] at c10 c8
      clear c0 o5 t5 HE1 HE2
      go_wp2
      go_ret
      exact ⟨rfl, T5.out⟩
    · have ho : OutB (w3.alloc (.cells (outA 0 zWD (.slice none 0 0) (.slice none 0 0) (.slice none 0 0) (.slice none 0 0) 0) 41)) w3.heap.size (outA 0 zWD (.slice none 0 0) (.slice none 0 0) (.slice none 0 0) (.slice none 0 0) 0) := ⟨heap_alloc_new w3 _⟩
      have HTH : Hid _ := out_there ho
      have HMID : Hid (∀ W4, W4 = (w3.alloc (.cells (outA 0 zWD (.slice none 0 0) (.slice none 0 0) (.slice none 0 0) (.slice none 0 0) 0) 41)).setCells w3.heap.size 0 (outA kd D (.slice sb D.st.length sd) (.slice ob1 D.out.length od) (.slice hb1 h.length hd) (.slice none 0 0) er).toList → OutB W4 w3.heap.size (outA kd D (.slice sb D.st.length sd) (.slice ob1 D.out.length od) (.slice hb1 h.length hd) (.slice none 0 0) er) ∧ StB W4 b D (.slice sa D.st.length sc) (.slice oa D.out.length oc) ∧ Touch w W4 [] ∧ VRow W4 (.slice sb D.st.length sd) D.st ∧ VRow W4 (.slice ob1 D.out.length od) D.out ∧ VRow W4 (.slice hb1 h.length hd) h) := fun W4 hW4 => by
        obtain ⟨g1, g2⟩ := out_sets ho kd D (.slice sb D.st.length sd) (.slice ob1 D.out.length od) (.slice hb1 h.length hd) (.slice none 0 0) er W4 hW4
        have t34 : Touch w3 W4 [] := ((Touch.refl w3 []).alloc _).trans g2 (fun z hz => .inr (by simp at hz; omega))
        exact ⟨g1, (HP.out.1.touch t3 (by simp)).touch t34 (by simp), (HP.out.2.trans t3 (by simp)).trans t34 (by simp), SRow.keep r1 t34 (by simp), SRow.keep r2 t34 (by simp), SRow.keep r3 t34 (by simp)⟩
      have HKE : Hid _ := hke
      have hk1 : ¬ kd = 1 := by rcases hke with ⟨rfl, _⟩ | ⟨rfl, _⟩ <;> decide
      clear ho t3 r1 r2 r3 hbk HB x0 x1 x2 x3 x4 x5 x6 HP hke
      go_wp2_with (refine wpList_store_mid rfl 41 _ _ rfl w3.heap.size 0 (outA kd D (.slice sb D.st.length sd) (.slice ob1 D.out.length od) (.slice hb1 h.length hd) (.slice none 0 0) er) rfl rfl HTH.out Try.size_out (out_one _ _ _ _ _ _ _ _ _ _ _ _ _ _ _) ?_; refine wpList_nameS fun W4 hW4 => ?_; have HM4 : Hid _ := HMID.out W4 hW4; have c0 := HM4.out.1.cell 0; simp only [outA, List.getElem?_toArray, List.getElem?_cons_zero, List.getElem?_cons_succ] at c0; clear hW4 HMID HTH)
      refine (splive_any _).mono ?_
      rintro e w5 ⟨rfl, t5⟩
      obtain ⟨e1, e2, e3, e4, e5, e6⟩ := HM4.out
      have o5 := e1.touch t5 (by simp)
      have s5 := e2.touch t5 (by simp)
      have T5 : Hid (Touch w w5 []) := e3.trans t5 (by simp)
      have HSS : Hid (HidC _ _ _ _ _) := ⟨spsames_any D sb ob1 sa oa sd od sc oc HSW.out.st HSW.out.out w5 (SRow.keep e4 t5 (by simp)) (SRow.keep e5 t5 (by simp)) (SRow.keep HR.out.1 T5.out (by simp)) (SRow.keep HR.out.2.1 T5.out (by simp))⟩
      have HSV : Hid (∀ W, Touch w5 W [] → HidC _ _ _ _ _) := fun W t => ⟨spsame_any hb1 ah hd ch h W HSW.out.hl (SRow.keep (SRow.keep e6 t5 (by simp)) t (by simp)) (SRow.keep (SRow.keep HR.out.2.2 T5.out (by simp)) t (by simp))⟩
      have O5 : Hid _ := o5
      have z := fun j => o5.cell j
      have z0 := z 0
      have z1 := z 1
      have z2 := z 2
      have z3 := z 3
      have z4 := z 4
      have z5 := z 5
      have z6 := z 6
      have z7 := z 7
      have z10 := z 10
      simp only [outA, List.getElem?_toArray, List.getElem?_cons_zero, List.getElem?_cons_succ] at z0 z1 z2 z3 z4 z5 z6 z7 z10
      obtain ⟨x0, x1, x2, x3, x4, x5, x6⟩ := s5.cells
      have hbe : ((kd == 2) == (er == 0)) = true := by
        rcases HKE.out with ⟨rfl, rfl⟩ | ⟨rfl, h2⟩
        · rfl
        · have : (er == 0) = false := by simpa using h2
          rw [this]; rfl
      clear c0 o5 s5 t5 e1 e2 e3 e4 e5 e6 z HM4 HKE hk1
      go_wp2_with fail
      refine HSS.out.out.mono ?_
      rintro e w6 ⟨rfl, t6⟩
      have o6 := O5.out.touch t6 (by simp)
      have O6 : Hid _ := o6
      have T6 : Hid (Touch w w6 []) := T5.out.trans t6 (by simp)
      have c8 := o6.cell 8
      simp only [outA, List.getElem?_toArray, List.getElem?_cons_zero, List.getElem?_cons_succ] at c8
      have HSW6 := (HSV.out _ t6).out
      clear z0 z1 z2 z3 z4 z5 z6 z7 z10 x0 x1 x2 x3 x4 x5 x6 o6 t6 HSV O5 T5 HSS
      go_wp2_with fail
      refine HSW6.mono ?_
      rintro e w7 ⟨rfl, t7⟩
      have o7 := O6.out.touch t7 (by simp)
      have T7 : Hid (Touch w w7 []) := T6.out.trans t7 (by simp)
      have c9 := o7.cell 9
      simp only [outA, List.getElem?_toArray, List.getElem?_cons_zero, List.getElem?_cons_succ] at c9
      clear c8 HSW6 t7 o7 O6 T6
      go_wp2
      go_ret
      exact ⟨rfl, T7.out⟩
  · rw [if_pos (by rfl)]
    go_simp
    refine hK.out _ _ trivial (fun hHeld => ?_)
    clear hK
    try simp only [Act.put, List.getElem_toArray, List.getElem_cons_succ, List.getElem_cons_zero, List.setIfInBounds_toArray, List.set_cons_zero, List.set_cons_succ]
    clear hHeld
    refine wpAnyH_ready (rs := [1]) (by kernel_rfl) (by simp) (AllReadyH.cons rfl (fun K hK => ?_) (AllReadyH.nil))
    rw [if_pos (by rfl)]
    go_simp
    refine (HF.out _).out.mono ?_
    rintro e wf ⟨rfl, rfl⟩
    go_simp
    refine hK.out _ _ trivial (fun hHeld => ?_)
    clear hK
    try simp only [Act.put, List.getElem_toArray, List.getElem_cons_succ, List.getElem_cons_zero, List.setIfInBounds_toArray, List.set_cons_zero, List.set_cons_succ]
    clear hHeld
    refine wpAnyH_ready (rs := [3]) (by kernel_rfl) (by simp) (AllReadyH.cons rfl (fun K hK => ?_) (AllReadyH.nil))
    rw [if_pos (by rfl)]
    go_simp
    refine (HS.out _).out.mono ?_
    rintro e w1 ⟨rfl, t1⟩
    go_simp
    refine hK.out _ _ trivial (fun hHeld => ?_)
    clear hK
    try simp only [Act.put, List.getElem_toArray, List.getElem_cons_succ, List.getElem_cons_zero, List.setIfInBounds_toArray, List.set_cons_zero, List.set_cons_succ]
    clear hHeld
    refine wpAnyH_ready (rs := [5]) (by kernel_rfl) (by simp) (AllReadyH.cons rfl (fun K hK => ?_) (AllReadyH.nil))
    rw [if_pos (by rfl)]
    go_simp
    refine (HH.out _).out.mono ?_
    rintro e w1 ⟨rfl, rfl⟩
    go_simp
    refine hK.out _ _ trivial (fun hHeld => ?_)
    clear hK
    try simp only [Act.put, List.getElem_toArray, List.getElem_cons_succ, List.getElem_cons_zero, List.setIfInBounds_toArray, List.set_cons_zero, List.set_cons_succ]
    replace t1 : Touch Q w1 [] := ((Touch.refl Q []).drew).trans t1 (by simp)
    have T1 : Hid (Touch Q w1 []) := t1
    have B1 := B0.out.touch t1 (by simp)
    have HB1 : Hid _ := B1
    obtain ⟨y0, y1, y2, y3, y4, y5, y6⟩ := B1.cells
    have g0 := B1.fr 0
    have g1 := B1.fr 1
    have g2 := B1.fr 2
    have g3 := B1.fr 3
    have g4 := B1.fr 4
    have g5 := B1.fr 5
    have g6 := B1.fr 6
    clear x0 x1 x2 x3 x4 x5 x6 t1 B1
    refine wpAnyH_take (i := 6) (v := (.slice ap l.length cp)) rfl (by kernel_rfl) (by kernel_rfl) (by kernel_rfl) (fun _ _ _ h => h) (Or.inl ⟨by rfl, ?_⟩) hHeld ?_
    · intro w' hSw
      try simp only [Act.put, List.getElem_toArray, List.getElem_cons_succ, List.getElem_cons_zero, List.setIfInBounds_toArray, List.set_cons_zero, List.set_cons_succ]
      go_simp
    try simp only [Act.put, List.getElem_toArray, List.getElem_cons_succ, List.getElem_cons_zero, List.setIfInBounds_toArray, List.set_cons_zero, List.set_cons_succ]
    clear hHeld
    refine wpAnyH_ready (rs := [7]) (by kernel_rfl) (by simp) (AllReadyH.cons rfl (fun K hK => ?_) (AllReadyH.nil))
    rw [if_pos (by rfl)]
    go_simp
    refine hK.out _ _ trivial (fun hHeld => ?_)
    clear hK
    try simp only [Act.put, List.getElem_toArray, List.getElem_cons_succ, List.getElem_cons_zero, List.setIfInBounds_toArray, List.set_cons_zero, List.set_cons_succ]
    refine wpAnyH_take (i := 8) (v := (.slice ah h.length ch)) rfl (by kernel_rfl) (by kernel_rfl) (by kernel_rfl) (fun _ _ _ h => h) (Or.inl ⟨by rfl, ?_⟩) hHeld ?_
    · intro w' hSw
      try simp only [Act.put, List.getElem_toArray, List.getElem_cons_succ, List.getElem_cons_zero, List.setIfInBounds_toArray, List.set_cons_zero, List.set_cons_succ]
      go_simp
    try simp only [Act.put, List.getElem_toArray, List.getElem_cons_succ, List.getElem_cons_zero, List.setIfInBounds_toArray, List.set_cons_zero, List.set_cons_succ]
    clear hHeld
    refine wpAnyH_done (by kernel_rfl) ?_ _
    have HP : Hid (StB (((((((w1.setCell ⟨b, 0, none⟩ (.int .i64 D.pc)).setCell ⟨b, 1, none⟩ (.slice sa D.st.length sc)).setCell ⟨b, 2, none⟩ (.int .u64 D.l0)).setCell ⟨b, 3, none⟩ (.int .u64 D.l1)).setCell ⟨b, 4, none⟩ (.int .u64 D.l2)).setCell ⟨b, 5, none⟩ (.int .u64 D.l3)).setCell ⟨b, 6, none⟩ (.slice oa D.out.length oc)) b D (.slice sa D.st.length sc) (.slice oa D.out.length oc) ∧ Touch w (((((((w1.setCell ⟨b, 0, none⟩ (.int .i64 D.pc)).setCell ⟨b, 1, none⟩ (.slice sa D.st.length sc)).setCell ⟨b, 2, none⟩ (.int .u64 D.l0)).setCell ⟨b, 3, none⟩ (.int .u64 D.l1)).setCell ⟨b, 4, none⟩ (.int .u64 D.l2)).setCell ⟨b, 5, none⟩ (.int .u64 D.l3)).setCell ⟨b, 6, none⟩ (.slice oa D.out.length oc)) []) := ⟨HB1.out.put D _ _, (T0.out.trans T1.out (by simp)).trans (stPut_touch _ _ _ _ _) (fun x hx => .inr (by simp at hx; have := HBB.out; omega))⟩
    clear y0 y1 y2 y3 y4 y5 y6 g0 g1 g2 g3 g4 g5 g6 HB1 T1 T0 HF HS HH B0
    generalize (((((((w1.setCell ⟨b, 0, none⟩ (.int .i64 D.pc)).setCell ⟨b, 1, none⟩ (.slice sa D.st.length sc)).setCell ⟨b, 2, none⟩ (.int .u64 D.l0)).setCell ⟨b, 3, none⟩ (.int .u64 D.l1)).setCell ⟨b, 4, none⟩ (.int .u64 D.l2)).setCell ⟨b, 5, none⟩ (.int .u64 D.l3)).setCell ⟨b, 6, none⟩ (.slice oa D.out.length oc)) = Q2 at *
    obtain ⟨x0, x1, x2, x3, x4, x5, x6⟩ := HP.out.1.cells
    go_wp2_with fail
    refine (HB.out _ HP.out.2).out.mono ?_
    intro e w3 hbk
    rcases sn_ways (out_len l D h 100) hbk with ⟨E, sb, ns, sd, ob1, no, od, hb1, hd, ab, na, ad, rfl, t3⟩ | ⟨kd, er, sb, sd, ob1, od, hb1, hd, rfl, hke, r1, r2, r3, t3⟩
    · have ho : OutB (w3.alloc (.cells (outA 0 zWD (.slice none 0 0) (.slice none 0 0) (.slice none 0 0) (.slice none 0 0) 0) 41)) w3.heap.size (outA 0 zWD (.slice none 0 0) (.slice none 0 0) (.slice none 0 0) (.slice none 0 0) 0) := ⟨heap_alloc_new w3 _⟩
      have HTH : Hid _ := out_there ho
      have HMID : Hid (∀ W4, W4 = (w3.alloc (.cells (outA 0 zWD (.slice none 0 0) (.slice none 0 0) (.slice none 0 0) (.slice none 0 0) 0) 41)).setCells w3.heap.size 0 (outA 1 E (.slice sb ns sd) (.slice ob1 no od) (.slice hb1 h.length hd) (.slice ab na ad) 0).toList → OutB W4 w3.heap.size (outA 1 E (.slice sb ns sd) (.slice ob1 no od) (.slice hb1 h.length hd) (.slice ab na ad) 0) ∧ Touch w W4 []) := fun W4 hW4 => by
        obtain ⟨g1, g2⟩ := out_sets ho 1 E (.slice sb ns sd) (.slice ob1 no od) (.slice hb1 h.length hd) (.slice ab na ad) 0 W4 hW4
        exact ⟨g1, (((HP.out.2.trans t3 (by simp)).alloc _).trans g2 (fun z hz => .inr (by simp at hz; have := (HP.out.2.trans t3 (by simp)).size; omega)))⟩
      clear ho t3 hbk HB HR HSW x0 x1 x2 x3 x4 x5 x6 HP
      go_wp2_with (refine wpList_store_mid rfl 41 _ _ rfl w3.heap.size 0 (outA 1 E (.slice sb ns sd) (.slice ob1 no od) (.slice hb1 h.length hd) (.slice ab na ad) 0) rfl rfl HTH.out Try.size_out (out_one _ _ _ _ _ _ _ _ _ _ _ _ _ _ _) ?_; refine wpList_nameS fun W4 hW4 => ?_; obtain ⟨e1, e2⟩ := HMID.out W4 hW4; have HE1 : Hid _ := e1; have HE2 : Hid _ := e2; have c0 := e1.cell 0; simp only [outA, List.getElem?_toArray, List.getElem?_cons_zero, List.getElem?_cons_succ] at c0; clear hW4 e1 e2 HMID HTH)
      refine (splive_any _).mono ?_
      rintro e w5 ⟨rfl, t5⟩
      have o5 := HE1.out.touch t5 (by simp)
      have T5 : Hid (Touch w w5 []) := HE2.out.trans t5 (by simp)
      have c10 := o5.cell 10
      have c8 := o5.cell 8
      simp only [outA, List.getElem?_toArray, List.getElem?_cons_zero, List.getElem?_cons_succ] at c10 c8
      clear c0 o5 t5 HE1 HE2
      go_wp2
      go_ret
      exact ⟨rfl, T5.out⟩
    · have ho : OutB (w3.alloc (.cells (outA 0 zWD (.slice none 0 0) (.slice none 0 0) (.slice none 0 0) (.slice none 0 0) 0) 41)) w3.heap.size (outA 0 zWD (.slice none 0 0) (.slice none 0 0) (.slice none 0 0) (.slice none 0 0) 0) := ⟨heap_alloc_new w3 _⟩
      have HTH : Hid _ := out_there ho
      have HMID : Hid (∀ W4, W4 = (w3.alloc (.cells (outA 0 zWD (.slice none 0 0) (.slice none 0 0) (.slice none 0 0) (.slice none 0 0) 0) 41)).setCells w3.heap.size 0 (outA kd D (.slice sb D.st.length sd) (.slice ob1 D.out.length od) (.slice hb1 h.length hd) (.slice none 0 0) er).toList → OutB W4 w3.heap.size (outA kd D (.slice sb D.st.length sd) (.slice ob1 D.out.length od) (.slice hb1 h.length hd) (.slice none 0 0) er) ∧ StB W4 b D (.slice sa D.st.length sc) (.slice oa D.out.length oc) ∧ Touch w W4 [] ∧ VRow W4 (.slice sb D.st.length sd) D.st ∧ VRow W4 (.slice ob1 D.out.length od) D.out ∧ VRow W4 (.slice hb1 h.length hd) h) := fun W4 hW4 => by
        obtain ⟨g1, g2⟩ := out_sets ho kd D (.slice sb D.st.length sd) (.slice ob1 D.out.length od) (.slice hb1 h.length hd) (.slice none 0 0) er W4 hW4
        have t34 : Touch w3 W4 [] := ((Touch.refl w3 []).alloc _).trans g2 (fun z hz => .inr (by simp at hz; omega))
        exact ⟨g1, (HP.out.1.touch t3 (by simp)).touch t34 (by simp), (HP.out.2.trans t3 (by simp)).trans t34 (by simp), SRow.keep r1 t34 (by simp), SRow.keep r2 t34 (by simp), SRow.keep r3 t34 (by simp)⟩
      have HKE : Hid _ := hke
      have hk1 : ¬ kd = 1 := by rcases hke with ⟨rfl, _⟩ | ⟨rfl, _⟩ <;> decide
      clear ho t3 r1 r2 r3 hbk HB x0 x1 x2 x3 x4 x5 x6 HP hke
      go_wp2_with (refine wpList_store_mid rfl 41 _ _ rfl w3.heap.size 0 (outA kd D (.slice sb D.st.length sd) (.slice ob1 D.out.length od) (.slice hb1 h.length hd) (.slice none 0 0) er) rfl rfl HTH.out Try.size_out (out_one _ _ _ _ _ _ _ _ _ _ _ _ _ _ _) ?_; refine wpList_nameS fun W4 hW4 => ?_; have HM4 : Hid _ := HMID.out W4 hW4; have c0 := HM4.out.1.cell 0; simp only [outA, List.getElem?_toArray, List.getElem?_cons_zero, List.getElem?_cons_succ] at c0; clear hW4 HMID HTH)
      refine (splive_any _).mono ?_
      rintro e w5 ⟨rfl, t5⟩
      obtain ⟨e1, e2, e3, e4, e5, e6⟩ := HM4.out
      have o5 := e1.touch t5 (by simp)
      have s5 := e2.touch t5 (by simp)
      have T5 : Hid (Touch w w5 []) := e3.trans t5 (by simp)
      have HSS : Hid (HidC _ _ _ _ _) := ⟨spsames_any D sb ob1 sa oa sd od sc oc HSW.out.st HSW.out.out w5 (SRow.keep e4 t5 (by simp)) (SRow.keep e5 t5 (by simp)) (SRow.keep HR.out.1 T5.out (by simp)) (SRow.keep HR.out.2.1 T5.out (by simp))⟩
      have HSV : Hid (∀ W, Touch w5 W [] → HidC _ _ _ _ _) := fun W t => ⟨spsame_any hb1 ah hd ch h W HSW.out.hl (SRow.keep (SRow.keep e6 t5 (by simp)) t (by simp)) (SRow.keep (SRow.keep HR.out.2.2 T5.out (by simp)) t (by simp))⟩
      have O5 : Hid _ := o5
      have z := fun j => o5.cell j
      have z0 := z 0
      have z1 := z 1
      have z2 := z 2
      have z3 := z 3
      have z4 := z 4
      have z5 := z 5
      have z6 := z 6
      have z7 := z 7
      have z10 := z 10
      simp only [outA, List.getElem?_toArray, List.getElem?_cons_zero, List.getElem?_cons_succ] at z0 z1 z2 z3 z4 z5 z6 z7 z10
      obtain ⟨x0, x1, x2, x3, x4, x5, x6⟩ := s5.cells
      have hbe : ((kd == 2) == (er == 0)) = true := by
        rcases HKE.out with ⟨rfl, rfl⟩ | ⟨rfl, h2⟩
        · rfl
        · have : (er == 0) = false := by simpa using h2
          rw [this]; rfl
      clear c0 o5 s5 t5 e1 e2 e3 e4 e5 e6 z HM4 HKE hk1
      go_wp2_with fail
      refine HSS.out.out.mono ?_
      rintro e w6 ⟨rfl, t6⟩
      have o6 := O5.out.touch t6 (by simp)
      have O6 : Hid _ := o6
      have T6 : Hid (Touch w w6 []) := T5.out.trans t6 (by simp)
      have c8 := o6.cell 8
      simp only [outA, List.getElem?_toArray, List.getElem?_cons_zero, List.getElem?_cons_succ] at c8
      have HSW6 := (HSV.out _ t6).out
      clear z0 z1 z2 z3 z4 z5 z6 z7 z10 x0 x1 x2 x3 x4 x5 x6 o6 t6 HSV O5 T5 HSS
      go_wp2_with fail
      refine HSW6.mono ?_
      rintro e w7 ⟨rfl, t7⟩
      have o7 := O6.out.touch t7 (by simp)
      have T7 : Hid (Touch w w7 []) := T6.out.trans t7 (by simp)
      have c9 := o7.cell 9
      simp only [outA, List.getElem?_toArray, List.getElem?_cons_zero, List.getElem?_cons_succ] at c9
      clear c8 HSW6 t7 o7 O6 T6
      go_wp2
      go_ret
      exact ⟨rfl, T7.out⟩

end Go.Proofs.Ytlndbligbpfdpaa
