/-
  package opaque: behind, put AND WHAT TAKES IT BACK, BY THEIR CONTRACTS.
-/
import Derived.Test.YtjacclbifeoclaaOpqFits
import Derived.Test.YtjacclbifeoclaaOpqDel
import Derived.Deep.RegionLaw
namespace Go.Proofs.Ytjacclbifeoclaa
set_option linter.unusedVariables false
set_option linter.unusedSimpArgs false
open Go.RowKit Go.Maps
attribute [local go_sem] Oper.semAt_some

theorem val_set {w : World} {B g cap : Nat} {ls : List Int} (h : w.ownsRow B 49 1 (.slice (some ⟨g, 0, none⟩) ls.length cap) ls.length (ls.map (Value.int .u64))) (i : Nat) (x : Int) :
    (w.setCell ⟨g, i, none⟩ (.int .u64 x)).ownsRow B 49 1 (.slice (some ⟨g, 0, none⟩) ls.length cap) ls.length ((ls.set i x).map (Value.int .u64)) := by
  refine ⟨by simp, .inr ?_⟩
  rcases h.2 with ⟨e, _⟩ | ⟨g', cap', cur, e, hB, hg, h1, h2, h3, h4⟩
  · simp at e
  · simp only [Value.slice.injEq, Option.some.injEq, Addr.mk.injEq] at e
    obtain ⟨⟨rfl, _⟩, _, rfl⟩ := e
    refine ⟨g, cap, _, rfl, hB, heap_setCell_same _ _ _ _ _ _ hg, h1, h2, by simpa using h3, ?_⟩
    rw [List.map_set, ← h4]
    simp only [Array.toList_setIfInBounds, Nat.mul_one]
    rw [List.take_set]

set_option maxRecDepth 100000 in
set_option maxHeartbeats 4000000 in
theorem obehind_any {w : World} {rb : Nat} {ve vc vl vh : Value} {l : List EvD} {com hp : List Int} (hR : RowAt w rb ve vc vl vh) (hr : EvRow w ve l) (hl : l.length ≤ 1000) (hwf : ∀ e ∈ l, e.Wf) (hc : IRow w vc com) (hcl : com.length ≤ 100000) (hh : VRow w vh hp) (hhl : hp.length ≤ 12) (a : Int) (hok : (wrP l a).all (wrOk hp) = true) :
    Calls Try.prog 70 #[ptr rb, .int .i64 a] w (ValsP w (behP l com hp a)) := by
  have hcn := oclone_any hh (by omega)
  have HCT : Hid (∀ W, Touch w W [] → Calls Try.prog 45 #[vc, .int .i64 a] W fun e w' => e = .returned (.bool (decide (a ∈ com))) ∧ W = w') := fun W t => scontains_any (SRow.keep hc t (by simp)) (by omega) a
  obtain ⟨ao, cap, rfl⟩ := hr.form
  obtain ⟨bo, capb, rfl⟩ := hh.form
  obtain ⟨co, capc, rfl⟩ := hc.form
  have HWR : Hid (∀ W, Touch w W [] → Calls Try.prog 88 #[.slice ao l.length cap, .int .i64 a] W (AllE W (wrP l a))) := fun W t => writes_any (SRow.keep hr t (by simp)) hl hwf a
  have HRW : Hid (∀ W, Touch w W [] → RowAt W rb (.slice ao l.length cap) (.slice co com.length capc) vl (.slice bo hp.length capb)) := fun W t => hR.touch t (by simp)
  obtain ⟨c0, c1, c2, c3⟩ := hR.cells
  have HWRR : Hid (∀ p ∈ wrP l a, 0 ≤ p.1 ∧ p.1 < (hp.length : Int)) := fun p h => ⟨(mem_allK h).1, by simpa [wrOk] using (List.all_eq_true.1 hok) p h⟩
  have HWL : Hid ((wrP l a).length ≤ 1000) := by
    show _ ≤ _
    unfold wrP allK
    exact Nat.le_trans (List.length_filterMap_le _ _) (by simp)
  have HB : Hid (behP l com hp a = if a ∈ com then wrAll hp (wrP l a) else hp) := rfl
  generalize behP l com hp a = res at *
  generalize wrP l a = ws at *
  clear hr hwf hc hh hR hok c0 c1 c2
  generalize l.length = M at *
  generalize hN : hp.length = N at *
  have HN : Hid _ := hN
  clear hN
  generalize com.length = C at *
  go_enter Try.func70, Try.ntmps70
  go_wp2_with fail
  refine hcn.mono ?_
  rintro e w1 ⟨v1, rfl, hv1, t1⟩
  obtain ⟨no, ncap, rfl⟩ := owns_slice hv1
  have hct := HCT.out w1 t1
  obtain ⟨c0, c1, c2, c3'⟩ := (HRW.out _ t1).cells
  have HV1 : Hid (w1.ownsRow w.heap.size 49 1 (.slice no N ncap) N (hp.map (Value.int .u64))) := by
    have h := hv1
    unfold valOwn at h
    rw [HN.out] at h
    exact h
  have HT1 : Hid _ := t1
  clear hcn c3 hv1 t1 c2 c3'
  rw [HN.out]
  by_cases hac : a ∈ com
  · rw [decide_eq_true hac] at hct
    have HB2 : Hid (res = wrAll hp ws) := by show _ = _; rw [HB.out, if_pos hac]
    have hwr := HWR.out w1 HT1.out
    clear HB hac
    go_wp2_with fail
    refine hct.mono ?_
    rintro e w2 ⟨rfl, rfl⟩
    clear hct
    go_wp2_with fail
    refine hwr.mono ?_
    rintro e w4 ⟨v4, B4, rfl, hv4, hB4, t4⟩
    obtain ⟨po4, pcap4, rfl⟩ := owns_slice hv4
    have HP4 : Hid (PRow w4 (.slice po4 ws.length pcap4) ws) := prow_of hv4
    have HG4 : Hid (∀ g off, po4 = some ⟨g, off, none⟩ → w1.heap.size ≤ g) := fun g off hg => by subst hg; exact Nat.le_trans hB4 (hv4.lt g rfl).1
    have HT4 : Hid (Touch w w4 []) := HT1.out.trans t4 (by simp)
    have HV4 : Hid (w4.ownsRow w.heap.size 49 1 (.slice no N ncap) N (hp.map (Value.int .u64))) := ownsRow_touch HV1.out t4 (by simp)
    have HLT : Hid (∀ g, (Value.slice no N ncap).ownBlock = some g → w.heap.size ≤ g ∧ g < w1.heap.size) := fun g hg => HV1.out.lt g hg
    obtain ⟨K4, hK4⟩ : ∃ K, K = ws.length := ⟨_, rfl⟩
    have HK4 : Hid _ := hK4
    have hKl4 : K4 ≤ 1000 := by rw [hK4]; exact HWL.out
    rw [← hK4]
    clear hwr hv4 t4 c0 c1 hK4 hB4 HV1
    go_wp2_with fail
    go_loopw [28] (fun i wr => ∃ k : Nat, i = .int .i64 k ∧ k ≤ K4 ∧ wr.ownsRow w.heap.size 49 1 (.slice no N ncap) N ((wrAll hp (ws.take k)).map (Value.int .u64)) ∧ Touch w4 wr (Value.slice no N ncap).ownBlock.toList) (fun i _ => K4 - (intOf i).toNat)
    case atStart => exact ⟨0, rfl, Nat.zero_le _, HV4.out, Touch.refl _ _⟩
    case round =>
      obtain ⟨k4, rfl, hk4, hrow, t5⟩ := hrel
      have HT5 : Hid (Touch w wr []) := HT4.out.trans t5 (fun x hx => .inr (HLT.out x (by simpa using hx)).1)
      clear HV4
      by_cases hlt : k4 < K4
      · have h1 : (k4 : Int) < K4 := by omega
        have h0 : (0 : Int) ≤ k4 := by omega
        have hkl : k4 < ws.length := by rw [← HK4.out]; exact hlt
        obtain ⟨g, off, rfl, hg, d0, d1⟩ := PRow.two HP4.out k4 hkl
        have hgn : g ∉ (Value.slice no N ncap).ownBlock.toList := fun hx => by have := (HLT.out g (by simpa using hx)).2; have := HG4.out g off rfl; omega
        have e0 := (t5.cell (p := ⟨g, _, none⟩) hg hgn).trans d0
        have e1 := (t5.cell (p := ⟨g, _, none⟩) hg hgn).trans d1
        obtain ⟨hr0, hrN⟩ := HWRR.out _ (List.getElem_mem hkl)
        have hsn := wrAll_snoc (hp := hp) hkl
        obtain ⟨⟨t, v⟩, hp0⟩ : ∃ p, p = ws[k4] := ⟨_, rfl⟩
        rw [← hp0] at e0 e1 hr0 hrN hsn
        simp only at e0 e1 hr0 hrN hsn
        obtain ⟨j, rfl⟩ := Int.eq_ofNat_of_zero_le hr0
        have hlen : (wrAll hp (ws.take k4)).length = N := by rw [wrAll_len, HN.out]
        have hjN : j < N := by omega
        obtain ⟨g2, rfl⟩ : ∃ g2, no = some ⟨g2, 0, none⟩ := by
          rcases hrow.2 with ⟨e, e2⟩ | ⟨g', cap', cur, e, _⟩
          · omega
          · simp at e; exact ⟨g', e.1⟩
        have hfz : wr.frozen? ⟨g2, j, none⟩ = false := by
          rcases hrow.2 with ⟨e, _⟩ | ⟨g', cap', cur, e, hB, hg, _⟩
          · simp at e
          · simp only [Value.slice.injEq, Option.some.injEq, Addr.mk.injEq] at e
            obtain ⟨⟨rfl, _⟩, _, rfl⟩ := e
            simp [World.frozen?, hg]
        have hcj : ∃ u, wr.cell? ⟨g2, j, none⟩ = some (.int .u64 u) := by
          refine ⟨(wrAll hp (ws.take k4))[j]'(by omega), ?_⟩
          have := hrow.cells (g := g2) rfl j (.int .u64 ((wrAll hp (ws.take k4))[j]'(by omega))) (by rw [List.getElem?_map, List.getElem?_eq_getElem (by omega)]; rfl)
          rw [Addr.add_lit] at this
          simpa using this
        obtain ⟨u, hcj⟩ := hcj
        have hg2lt : g2 < wr.heap.size := World.block_lt_of_cell? wr _ hcj
        have TA : Touch wr (wr.alloc (.cells #[.int .i64 (j : Int), .int .u64 v] 113)) [] := (Touch.refl wr []).alloc _
        have hcj2 := (TA.cell (p := ⟨g2, j, none⟩) hg2lt (by simp)).trans hcj
        have hfz2 := (TA.frozen (p := ⟨g2, j, none⟩) hg2lt (by simp)).trans hfz
        have hbx0 : (wr.alloc (.cells #[.int .i64 (j : Int), .int .u64 v] 113)).cell? ⟨wr.heap.size, 0, none⟩ = some (.int .i64 (j : Int)) := cell_new _ _ _ _
        have hbx1 : (wr.alloc (.cells #[.int .i64 (j : Int), .int .u64 v] 113)).cell? ⟨wr.heap.size, 1, none⟩ = some (.int .u64 v) := cell_new _ _ _ _
        have HR2 : Hid (((wr.setCell ⟨g2, j, none⟩ (.int .u64 v)).alloc (.cells #[.int .i64 (j : Int), .int .u64 v] 113)).ownsRow w.heap.size 49 1 (.slice (some ⟨g2, 0, none⟩) N ncap) N ((wrAll hp (ws.take (k4 + 1))).map (Value.int .u64))) := by
          have h4 := val_set (ls := wrAll hp (ws.take k4)) (by rw [hlen]; exact hrow) j v
          rw [hlen] at h4
          show World.ownsRow _ _ _ _ _ _ _
          rw [hsn]
          have TB : Touch (wr.setCell ⟨g2, j, none⟩ (.int .u64 v)) ((wr.setCell ⟨g2, j, none⟩ (.int .u64 v)).alloc (.cells #[.int .i64 (j : Int), .int .u64 v] 113)) [] := (Touch.refl _ []).alloc _
          exact ownsRow_touch (by simpa using h4) TB (by simp)
        have HT6 : Hid (Touch w4 ((wr.setCell ⟨g2, j, none⟩ (.int .u64 v)).alloc (.cells #[.int .i64 (j : Int), .int .u64 v] 113)) [g2]) := (t5.setCell (p := ⟨g2, j, none⟩) (.inl (by simp [Value.ownBlock])) _).alloc _
        have q1 : (j : Int) < N := by omega
        have q0 : (0 : Int) ≤ j := by omega
        clear hrow t5 HT5 d0 d1 hp0 hsn hlen hfz hcj TA hgn hr0 hrN
        go_wp2
        go_roundw
        case rel => exact ⟨k4 + 1, by go_num, by omega, HR2.out, HT6.out⟩
        case measure => simp [intOf]; omega
      · obtain rfl : k4 = K4 := by omega
        have HR3 : Hid (valOwn wr w.heap.size (.slice no N ncap) res) := by
          show World.ownsRow _ _ _ _ _ _ _
          have hlen : (wrAll hp ws).length = N := by rw [wrAll_len, HN.out]
          rw [HB2.out, hlen]
          rw [HK4.out, List.take_length] at hrow
          exact hrow
        clear hrow t5 hlt
        go_wp2
        go_ret
        exact ⟨_, rfl, HR3.out, HT5.out⟩
  · rw [decide_eq_false hac] at hct
    have HB2 : Hid (res = hp) := by show _ = _; rw [HB.out, if_neg hac]
    clear HB hac
    go_wp2_with fail
    refine hct.mono ?_
    rintro e w2 ⟨rfl, rfl⟩
    clear hct
    go_wp2
    go_ret
    refine ⟨_, rfl, ?_, HT1.out⟩
    show World.ownsRow _ _ _ _ _ _ _
    rw [HB2.out, HN.out]
    exact HV1.out


set_option maxRecDepth 100000 in
theorem put1_any {w : World} {p : Nat} {a : Int} (hp : One w p (.int .i64 a) 3) (x : Int) :
    Calls Try.prog 69 #[.int .i64 x, ptr p] w fun e w' => e = .returned (.bool (x == a)) ∧ w = w' := by
  have c := hp.cell
  clear hp
  go_enter Try.func69, Try.ntmps69
  go_wp2
  go_ret
  exact ⟨rfl, rfl⟩

/-- A row of attempts. -/
structure RowO (w : World) (rb : Nat) (ve vc vl vh : Value) (l : List EvD) (com lf hp : List Int) : Prop where
  row : RowAt w rb ve vc vl vh
  nl : (lf ≠ [] → vl.ownBlock ≠ some rb) ∧ (hp ≠ [] → vh.ownBlock ≠ some rb)
  ev : EvRow w ve l
  com : IRow w vc com
  lf : IRow w vl lf
  hp : VRow w vh hp
  ne : (l ≠ [] → ve.ownBlock ≠ some rb) ∧ vc.ownBlock ≠ some rb
theorem RowO.touch {w w' : World} {rb : Nat} {ve vc vl vh : Value} {l : List EvD} {com lf hp : List Int} (h : RowO w rb ve vc vl vh l com lf hp) (t : Touch w w' []) : RowO w' rb ve vc vl vh l com lf hp :=
  ⟨h.row.touch t (by simp), h.nl, SRow.keep h.ev t (by simp), SRow.keep h.com t (by simp), SRow.keep h.lf t (by simp), SRow.keep h.hp t (by simp), h.ne⟩
/-- Its left and its heap are others. -/
theorem RowO.set {w w' : World} {rb : Nat} {ve vc vl vh vl' vh' : Value} {l : List EvD} {com lf hp lf' hp' : List Int} (h : RowO w rb ve vc vl vh l com lf hp) (t : Touch w w' [rb]) (hr : RowAt w' rb ve vc vl' vh') (h1 : IRow w vl' lf') (h2 : VRow w vh' hp')
    (n1 : lf' ≠ [] → vl'.ownBlock ≠ some rb) (n2 : hp' ≠ [] → vh'.ownBlock ≠ some rb) : RowO w' rb ve vc vl' vh' l com lf' hp' :=
  ⟨hr, ⟨n1, n2⟩, SRow.keepB h.ev t (fun hl g hg => by simp; rintro rfl; exact h.ne.1 hl hg), SRow.keepB h.com t (fun _ g hg => by simp; rintro rfl; exact h.ne.2 hg), SRow.keepB h1 t (fun hl g hg => by simp; rintro rfl; exact n1 hl hg), SRow.keepB h2 t (fun hl g hg => by simp; rintro rfl; exact n2 hl hg), h.ne⟩

/-- What put comes to. -/
def putO (l : List EvD) (com lf hp : List Int) (a : Int) : Int × List Int × List Int :=
  if (lf.any fun o => befS o a false l) = true then (8, lf, hp) else if fitP l hp a = false then (9, lf, hp) else (0, lf.filter fun o => !(o == a), behP l com hp a)

/-- What takes a put back. -/
structure BackO (w : World) (B : Nat) (fv : Value) (rb : Nat) (vl vh : Value) : Prop where
  is : ∃ p q r, fv = .func (.func 71) #[] #[ptr p, ptr q, ptr r] ∧ One w p vl 24 ∧ One w q vh 23 ∧ One w r (ptr rb) 56 ∧ p ≠ rb ∧ q ≠ rb ∧ r ≠ rb ∧ B ≤ p ∧ B ≤ q ∧ B ≤ r

theorem rowAt_set2 {w : World} {rb : Nat} {ve vc vl vh : Value} (h : RowAt w rb ve vc vl vh) (v : Value) : RowAt (w.setCell ⟨rb, 2, none⟩ v) rb ve vc v vh := by
  have := heap_setCell_same w rb 2 _ _ v h
  simpa using this
theorem rowAt_set3 {w : World} {rb : Nat} {ve vc vl vh : Value} (h : RowAt w rb ve vc vl vh) (v : Value) : RowAt (w.setCell ⟨rb, 3, none⟩ v) rb ve vc vl v := by
  have := heap_setCell_same w rb 3 _ _ v h
  simpa using this
theorem RowAt.frozen {w : World} {rb : Nat} {ve vc vl vh : Value} (h : RowAt w rb ve vc vl vh) (k : Nat) : w.frozen? ⟨rb, k, none⟩ = false := by simp [World.frozen?, h]

set_option maxRecDepth 100000 in
set_option maxHeartbeats 4000000 in
theorem oput_any {w : World} {rb : Nat} {ve vc vl vh : Value} {l : List EvD} {com lf hp : List Int} (h : RowO w rb ve vc vl vh l com lf hp) (hl : l.length ≤ 1000) (hwf : ∀ e ∈ l, e.Wf) (hn : ∀ e ∈ l, namedS e = true) (hcl : com.length ≤ 100000) (hfl : lf.length ≤ 100000) (hhl : hp.length ≤ 12) (a : Int) :
    Calls Try.prog 46 #[ptr rb, .int .i64 a] w fun e w' => ∃ fv vl' vh', e = .returned (.tuple #[fv, .int .i64 (putO l com lf hp a).1]) ∧ RowO w' rb ve vc vl' vh' l com (putO l com lf hp a).2.1 (putO l com lf hp a).2.2 ∧ Touch w w' [rb] ∧ ((putO l com lf hp a).1 = 0 → BackO w' w.heap.size fv rb vl vh) ∧ (∀ g, vl'.ownBlock = some g → vl.ownBlock = some g ∨ w.heap.size ≤ g) ∧ (∀ g, vh'.ownBlock = some g → vh.ownBlock = some g ∨ w.heap.size ≤ g) := by
  have T0 : Touch w ((w.alloc (.cells #[ptr rb] 56)).alloc (.cells #[.int .i64 a] 3)) [] := ((Touch.refl w []).alloc _).alloc _
  have P0 : One ((w.alloc (.cells #[ptr rb] 56)).alloc (.cells #[.int .i64 a] 3)) w.heap.size (ptr rb) 56 := (one_new w _ _).alloc _
  have Q0 : One ((w.alloc (.cells #[ptr rb] 56)).alloc (.cells #[.int .i64 a] 3)) (w.heap.size + 1) (.int .i64 a) 3 := by
    have := one_new (w.alloc (.cells #[ptr rb] 56)) (.int .i64 a) 3
    rw [World.size_alloc] at this
    exact this
  have hov := over_any (h.row.touch T0 (by simp)) (SRow.keep h.ev T0 (by simp)) hl (SRow.keep h.lf T0 (by simp)) hfl a
  have HFT : Hid (∀ W, Touch w W [] → Calls Try.prog 67 #[ptr rb, .int .i64 a] W fun e w' => e = .returned (.bool (fitP l hp a)) ∧ Touch W w' []) := fun W t => fits_any (h.row.touch t (by simp)) (SRow.keep h.ev t (by simp)) hl hwf hn (SRow.keep h.hp t (by simp)) hhl a
  have HH : Hid (RowO w rb ve vc vl vh l com lf hp) := h
  have hrb := lt_of_heap h.row
  have HT0 : Hid _ := T0
  have HP0 : Hid _ := P0
  have HQ0 : Hid _ := Q0
  have p0 := P0.cell
  have q0 := Q0.cell
  have HCL : Hid _ := hcl
  have HFL : Hid _ := hfl
  have HWF : Hid _ := hwf
  clear h T0 P0 Q0 hwf hn hcl hfl
  cases hv : (lf.any fun o => befS o a false l) with
  | true =>
    have HP : Hid (putO l com lf hp a = (8, lf, hp)) := by show _ = _; unfold putO; rw [if_pos hv]
    rw [hv] at hov
    clear hv
    go_enter Try.func46, Try.ntmps46
    go_wp2_with fail
    refine hov.mono ?_
    rintro e w1 ⟨rfl, t1⟩
    clear hov
    have t01 := HT0.out.trans t1 (by simp)
    have HT1 : Hid _ := t01
    clear t1 t01
    go_wp2
    go_ret2
    exact ⟨.nilFunc, vl, vh, by rw [HP.out]; rfl, by rw [HP.out]; exact HH.out.touch HT1.out, HT1.out.mono (by simp), (by rw [HP.out]; intro e; cases e), fun g h => .inl h, fun g h => .inl h⟩
  | false =>
    rw [hv] at hov
    have HV : Hid _ := hv
    clear hv
    go_enter Try.func46, Try.ntmps46
    go_wp2_with fail
    refine hov.mono ?_
    rintro e w1 ⟨rfl, t1⟩
    clear hov p0 q0
    have t01 := HT0.out.trans t1 (by simp)
    have hft := HFT.out w1 t01
    have P1 := One.touch HP0.out t1 (by simp)
    have Q1 := One.touch HQ0.out t1 (by simp)
    have p1 := P1.cell
    have q1 := Q1.cell
    have HT1 : Hid _ := t01
    have HP1 : Hid _ := P1
    have HQ1 : Hid _ := Q1
    clear HT0 HP0 HQ0 HFT t1 t01 P1 Q1
    cases hf : fitP l hp a with
    | false =>
      rw [hf] at hft
      have HP : Hid (putO l com lf hp a = (9, lf, hp)) := by show _ = _; unfold putO; rw [if_neg (by rw [HV.out]; simp), if_pos hf]
      clear hf
      go_wp2_with fail
      refine hft.mono ?_
      rintro e w2 ⟨rfl, t2⟩
      clear hft
      have HT2 : Hid _ := HT1.out.trans t2 (by simp)
      clear t2
      go_wp2
      go_ret2
      exact ⟨.nilFunc, vl, vh, by rw [HP.out]; rfl, by rw [HP.out]; exact HH.out.touch HT2.out, HT2.out.mono (by simp), (by rw [HP.out]; intro e; cases e), fun g h => .inl h, fun g h => .inl h⟩
    | true =>
      rw [hf] at hft
      have HP : Hid (putO l com lf hp a = (0, lf.filter fun o => !(o == a), behP l com hp a)) := by show _ = _; unfold putO; rw [if_neg (by rw [HV.out]; simp), if_neg (by rw [hf]; simp)]
      have HOK : Hid ((wrP l a).all (wrOk hp) = true) := by
        show _ = _
        unfold fitP at hf
        simp only [Bool.and_eq_true] at hf
        exact hf.2.1
      clear hf
      go_wp2_with fail
      refine hft.mono ?_
      rintro e w2 ⟨rfl, t2⟩
      clear hft p1 q1
      have T2 := HT1.out.trans t2 (by simp)
      have P2 := One.touch HP1.out t2 (by simp)
      have Q2 := One.touch HQ1.out t2 (by simp)
      obtain ⟨c0, c1, c2, c3⟩ := (HH.out.row.touch T2 (by simp)).cells
      have p2 := P2.cell
      have HT2 : Hid _ := T2
      have HP2 : Hid _ := P2
      have HQ2 : Hid _ := Q2
      clear HT1 HP1 HQ1 t2 T2 P2 Q2 c0 c1
      obtain ⟨lo, lcap, rfl⟩ := HH.out.lf.form
      obtain ⟨ho, hcap, rfl⟩ := HH.out.hp.form
      generalize hLN : lf.length = LN at HH c2 ⊢
      generalize hHN : hp.length = HN at HH c3 ⊢
      have HLN : Hid (lf.length = LN) := hLN
      have HHN : Hid (hp.length = HN) := hHN
      clear hLN hHN
      have hrb2 : rb < w2.heap.size := Nat.lt_of_lt_of_le hrb HT2.out.size
      have hws2 : w.heap.size < w2.heap.size := lt_of_heap HP2.out
      have HS : Hid (∀ W, Touch w2 W [] → W.cell? ⟨w.heap.size, 0, none⟩ = some (ptr rb) ∧ W.cell? ⟨rb, 2, none⟩ = some (.slice lo LN lcap) ∧ W.cell? ⟨rb, 3, none⟩ = some (.slice ho HN hcap)) := fun W t =>
        ⟨(t.cell (p := ⟨w.heap.size, 0, none⟩) hws2 (by simp)).trans p2, (t.cell (p := ⟨rb, 2, none⟩) hrb2 (by simp)).trans c2, (t.cell (p := ⟨rb, 3, none⟩) hrb2 (by simp)).trans c3⟩
      go_wp2_with fail
      go_region_held3 (fun W => W.cell? ⟨w.heap.size, 0, none⟩ = some (ptr rb) ∧ W.cell? ⟨rb, 2, none⟩ = some (.slice lo LN lcap) ∧ W.cell? ⟨rb, 3, none⟩ = some (.slice ho HN hcap)) ((exact HS.out _ (by repeat (first | exact Touch.refl _ _ | apply Touch.drew | apply Touch.alloc | (refine Touch.setCell ?_ (.inr (by simp)) _))))) (fail)
      · have P3 : One ((w2.alloc (.cells #[.slice lo LN lcap] 24)).alloc (.cells #[.slice ho HN hcap] 23)).drew w2.heap.size (.slice lo LN lcap) 24 := (one_new w2 _ _).alloc _
        have Q3 : One ((w2.alloc (.cells #[.slice lo LN lcap] 24)).alloc (.cells #[.slice ho HN hcap] 23)).drew (w2.heap.size + 1) (.slice ho HN hcap) 23 := by
          have := one_new (w2.alloc (.cells #[.slice lo LN lcap] 24)) (.slice ho HN hcap) 23
          rw [World.size_alloc] at this
          exact this
        have T3 : Touch w2 ((w2.alloc (.cells #[.slice lo LN lcap] 24)).alloc (.cells #[.slice ho HN hcap] 23)).drew [] := (((Touch.refl w2 []).alloc _).alloc _).drew
        generalize ((w2.alloc (.cells #[.slice lo LN lcap] 24)).alloc (.cells #[.slice ho HN hcap] 23)).drew = W at *
        obtain ⟨q, hq⟩ : ∃ q, q = w2.heap.size + 1 := ⟨_, rfl⟩
        rw [← hq] at Q3 ⊢
        obtain ⟨p, hp'⟩ : ∃ p, p = w2.heap.size := ⟨_, rfl⟩
        rw [← hp'] at P3 ⊢
        have hne_p : p ≠ rb := by omega
        have hne_q : q ≠ rb := by omega
        have hne_w : w.heap.size ≠ rb := by omega
        have hne_w1 : w.heap.size + 1 ≠ rb := by omega
        have HGE : Hid (w.heap.size ≤ p ∧ w.heap.size ≤ q) := ⟨by omega, by omega⟩
        have HO : Hid (RowO W rb ve vc (.slice lo LN lcap) (.slice ho HN hcap) l com lf hp) := HH.out.touch (HT2.out.trans T3 (by simp))
        have HTW : Hid (Touch w W []) := HT2.out.trans T3 (by simp)
        have P4 : One W w.heap.size (ptr rb) 56 := One.touch HP2.out T3 (by simp)
        have Q4 : One W (w.heap.size + 1) (.int .i64 a) 3 := One.touch HQ2.out T3 (by simp)
        have HSW : Hid (w.heap.size ≤ W.heap.size) := HTW.out.size
        have HS4 : Hid (∀ W', Touch W W' [rb] → W'.cell? ⟨w.heap.size, 0, none⟩ = some (ptr rb) ∧ W'.cell? ⟨w.heap.size + 1, 0, none⟩ = some (.int .i64 a) ∧ W'.cell? ⟨p, 0, none⟩ = some (.slice lo LN lcap)) := fun W' t =>
          ⟨(One.touch P4 t (by simpa using hne_w)).cell, (One.touch Q4 t (by simpa using hne_w1)).cell, (One.touch P3 t (by simpa using hne_p)).cell⟩
        have HCN : Hid (∀ W', Touch W W' [] → Calls Try.prog 68 #[.slice lo LN lcap] W' (IntsPost W' lf)) := fun W' t => iclone_any (HO.out.touch t).lf HFL.out
        have HDL : Hid (∀ w4 v4 B, Touch W w4 [] → intOwn w4 B v4 lf → W.heap.size ≤ B → Calls Try.prog 62 #[v4, .func (.func 69) #[] #[ptr (w.heap.size + 1)]] w4 fun e w' => ∃ a5 n5 c5, e = .returned (.slice a5 n5 c5) ∧ intOwn w' B (.slice a5 n5 c5) (lf.filter fun o => !(o == a)) ∧ Touch W w' [] ∧ w'.cell? ⟨rb, 2, none⟩ = some (.slice lo LN lcap) ∧ w'.frozen? ⟨rb, 2, none⟩ = false) := fun w4 v4 B t hv hB => by
          have hb : ∀ g ∈ v4.ownBlock.toList, W.heap.size ≤ g := fun g hg => Nat.le_trans hB (hv.lt g (by simpa using hg)).1
          have hqW := lt_of_heap Q4
          refine (oput_delete (p := w.heap.size + 1) (q := 0) (f := fun o => o == a) hv HFL.out (fun W' t' x hx => put1_any (One.touch (One.touch Q4 t (by simp)) t' (fun hm => by have := hb _ hm; omega)) x)).mono ?_
          rintro e w' ⟨v', h1, h2, h3⟩
          have t5 : Touch W w' [] := t.trans h3 (fun x hx => .inr (hb x hx))
          have hr := (HO.out.touch t5).row
          obtain ⟨a5, c5, rfl⟩ := owns_slice h2
          exact ⟨a5, _, c5, h1, h2, t5, hr.cells.2.2.1, hr.frozen 2⟩
        have HQ4' : Hid (One W (w.heap.size + 1) (.int .i64 a) 3) := Q4
        have HP3 : Hid (One W p (.slice lo LN lcap) 24) := P3
        have HQ3 : Hid (One W q (.slice ho HN hcap) 23) := Q3
        have HP4 : Hid (One W w.heap.size (ptr rb) 56) := P4
        have hd : Touch W W.drew [] := (Touch.refl W []).drew
        have hd' : Touch W W.drew [rb] := (Touch.refl W [rb]).drew
        clear P3 Q3 P4 Q4 T3 HT2 HP2 HQ2 hrb2 hws2 hrb hp' hq c2 c3 p2 HS
        go_wp2_with fail
        go_region_held3 (fun W' => W'.cell? ⟨w.heap.size, 0, none⟩ = some (ptr rb) ∧ W'.cell? ⟨w.heap.size + 1, 0, none⟩ = some (.int .i64 a) ∧ W'.cell? ⟨p, 0, none⟩ = some (.slice lo LN lcap)) ((first | exact HS4.out _ hd' | exact HS4.out _ (t4.mono (by simp)) | exact HS4.out _ (t5.mono (by simp)) | exact HS4.out _ ((t5.mono (by simp)).setCell (.inl (by simp)) _))) ((first | (go_at_call 68; refine (HCN.out _ hd).mono ?_; rintro e w4 ⟨v4, rfl, hv4, t4'⟩; have t4 : Touch W w4 [] := hd.trans t4' (by simp)) | (go_at_call 62; refine (HDL.out w4 v4 _ t4 hv4 (Nat.le_refl _)).mono ?_; rintro e w5 ⟨a5, n5, c5, rfl, hv5, t5, k5, z5⟩)))
        all_goals (
          have T6 : Touch W (w5.setCell ⟨rb, 2, none⟩ (.slice a5 n5 c5)) [rb] := (t5.mono (by simp)).setCell (.inl (by simp)) _
          have hv5r := irow_of hv5
          have hv5b : ∀ g, (Value.slice a5 n5 c5).ownBlock = some g → W.heap.size ≤ g := fun g hg => (hv5.lt g hg).1
          have hrbW := lt_of_heap HO.out.row
          have HVB5 : Hid (∀ g, (Value.slice a5 n5 c5).ownBlock = some g → W.heap.size ≤ g) := hv5b
          have O6 : RowO (w5.setCell ⟨rb, 2, none⟩ (.slice a5 n5 c5)) rb ve vc (.slice a5 n5 c5) (.slice ho HN hcap) l com (lf.filter fun o => !(o == a)) hp :=
            (HO.out.touch t5).set ((Touch.refl w5 [rb]).setCell (.inl (by simp)) _) (rowAt_set2 (HO.out.touch t5).row _) hv5r (HO.out.touch t5).hp (fun _ e => by have := hv5b rb e; omega) HO.out.nl.2
          have HO6 : Hid (RowO (w5.setCell ⟨rb, 2, none⟩ (.slice a5 n5 c5)) rb ve vc (.slice a5 n5 c5) (.slice ho HN hcap) l com (lf.filter fun o => !(o == a)) hp) := O6
          have HT6 : Hid (Touch W (w5.setCell ⟨rb, 2, none⟩ (.slice a5 n5 c5)) [rb]) := T6
          clear hv4 t4 hv5 t5 k5 z5 hv5r O6 T6 hd hd' HCN HDL HS4
          generalize w5.setCell ⟨rb, 2, none⟩ (.slice a5 n5 c5) = W6 at *
          have P7 : One W6 w.heap.size (ptr rb) 56 := One.touch HP4.out HT6.out (by simpa using hne_w)
          have HQ4 : Hid (One W6 (w.heap.size + 1) (.int .i64 a) 3) := One.touch HQ4'.out HT6.out (by simpa using hne_w1)
          have HS7 : Hid (∀ W', Touch W6 W' [rb] → W'.cell? ⟨w.heap.size, 0, none⟩ = some (ptr rb) ∧ W'.cell? ⟨w.heap.size + 1, 0, none⟩ = some (.int .i64 a)) := fun W' t =>
            ⟨(One.touch P7 t (by simpa using hne_w)).cell, (One.touch HQ4.out t (by simpa using hne_w1)).cell⟩
          have HBH : Hid (∀ W', Touch W6 W' [] → Calls Try.prog 70 #[ptr rb, .int .i64 a] W' fun e w' => ∃ a8 n8 c8, e = .returned (.slice a8 n8 c8) ∧ valOwn w' W'.heap.size (.slice a8 n8 c8) (behP l com hp a) ∧ Touch W6 w' [] ∧ w'.cell? ⟨rb, 3, none⟩ = some (.slice ho HN hcap) ∧ w'.frozen? ⟨rb, 3, none⟩ = false) := fun W' t => by
            have o := HO6.out.touch t
            refine (obehind_any o.row o.ev hl HWF.out o.com HCL.out o.hp hhl a HOK.out).mono ?_
            rintro e w' ⟨v', h1, h2, h3⟩
            have t5 : Touch W6 w' [] := t.trans h3 (by simp)
            have hr := (HO6.out.touch t5).row
            obtain ⟨a8, c8, rfl⟩ := owns_slice h2
            exact ⟨a8, _, c8, h1, h2, t5, hr.cells.2.2.2, hr.frozen 3⟩
          have hd : Touch W6 W6.drew [] := (Touch.refl W6 []).drew
          have hd' : Touch W6 W6.drew [rb] := (Touch.refl W6 [rb]).drew
          have HP7 : Hid (One W6 w.heap.size (ptr rb) 56) := P7
          clear P7
          go_wp2_with fail
          go_region_held3 (fun W' => W'.cell? ⟨w.heap.size, 0, none⟩ = some (ptr rb) ∧ W'.cell? ⟨w.heap.size + 1, 0, none⟩ = some (.int .i64 a)) ((first | exact HS7.out _ hd' | exact HS7.out _ (t8.mono (by simp)) | exact HS7.out _ ((t8.mono (by simp)).setCell (.inl (by simp)) _))) ((go_at_call 70; refine (HBH.out _ hd).mono ?_; rintro e w8 ⟨a8, n8, c8, rfl, hv8, t8, k8, z8⟩))
          have T9 : Touch W6 (w8.setCell ⟨rb, 3, none⟩ (.slice a8 n8 c8)) [rb] := (t8.mono (by simp)).setCell (.inl (by simp)) _
          have hv8b : ∀ g, (Value.slice a8 n8 c8).ownBlock = some g → W6.heap.size ≤ g := fun g hg => (hv8.lt g hg).1
          have hrb6 := lt_of_heap HO6.out.row
          have HVB8 : Hid (∀ g, (Value.slice a8 n8 c8).ownBlock = some g → W6.heap.size ≤ g) := hv8b
          have HSZ6 : Hid (W.heap.size ≤ W6.heap.size) := HT6.out.size
          have HO9 : Hid (RowO (w8.setCell ⟨rb, 3, none⟩ (.slice a8 n8 c8)) rb ve vc (.slice a5 n5 c5) (.slice a8 n8 c8) l com (lf.filter fun o => !(o == a)) (behP l com hp a)) :=
            (HO6.out.touch t8).set ((Touch.refl w8 [rb]).setCell (.inl (by simp)) _) (rowAt_set3 (HO6.out.touch t8).row _) (HO6.out.touch t8).lf (vrow_of hv8) HO6.out.nl.1 (fun _ e => by have := hv8b rb e; omega)
          have HT9 : Hid (Touch W (w8.setCell ⟨rb, 3, none⟩ (.slice a8 n8 c8)) [rb]) := HT6.out.trans T9 (by intro x hx; exact .inl hx)
          clear hv8 t8 k8 z8 T9 hv8b hrb6 hd hd' HBH HS7 HO6 HT6
          generalize w8.setCell ⟨rb, 3, none⟩ (.slice a8 n8 c8) = W9 at *
          go_wp2
          go_ret2
          refine ⟨.func (.func 71) #[] #[ptr p, ptr q, ptr w.heap.size], .slice a5 n5 c5, .slice a8 n8 c8, by rw [HP.out]; rfl, by rw [HP.out]; exact HO9.out, ?_, fun _ => by rw [HLN.out, HHN.out]; exact ⟨⟨p, q, w.heap.size, rfl, One.touch HP3.out HT9.out (by simpa using hne_p), One.touch HQ3.out HT9.out (by simpa using hne_q), One.touch HP4.out HT9.out (by simpa using hne_w), hne_p, hne_q, hne_w, HGE.out.1, HGE.out.2, Nat.le_refl _⟩⟩, fun g hg => .inr (Nat.le_trans HSW.out (HVB5.out g hg)), fun g hg => .inr (Nat.le_trans HSW.out (Nat.le_trans HSZ6.out (HVB8.out g hg)))⟩
          exact (HTW.out.mono (by simp)).trans HT9.out (by intro x hx; exact .inl hx))
      · have P3 : One ((w2.alloc (.cells #[.slice ho HN hcap] 23)).alloc (.cells #[.slice lo LN lcap] 24)).drew (w2.heap.size + 1) (.slice lo LN lcap) 24 := by
          have := one_new (w2.alloc (.cells #[.slice ho HN hcap] 23)) (.slice lo LN lcap) 24
          rw [World.size_alloc] at this
          exact this
        have Q3 : One ((w2.alloc (.cells #[.slice ho HN hcap] 23)).alloc (.cells #[.slice lo LN lcap] 24)).drew w2.heap.size (.slice ho HN hcap) 23 := (one_new w2 _ _).alloc _
        have T3 : Touch w2 ((w2.alloc (.cells #[.slice ho HN hcap] 23)).alloc (.cells #[.slice lo LN lcap] 24)).drew [] := (((Touch.refl w2 []).alloc _).alloc _).drew
        generalize ((w2.alloc (.cells #[.slice ho HN hcap] 23)).alloc (.cells #[.slice lo LN lcap] 24)).drew = W at *
        obtain ⟨p, hp'⟩ : ∃ p, p = w2.heap.size + 1 := ⟨_, rfl⟩
        rw [← hp'] at P3 ⊢
        obtain ⟨q, hq⟩ : ∃ q, q = w2.heap.size := ⟨_, rfl⟩
        rw [← hq] at Q3 ⊢
        have hne_p : p ≠ rb := by omega
        have hne_q : q ≠ rb := by omega
        have hne_w : w.heap.size ≠ rb := by omega
        have hne_w1 : w.heap.size + 1 ≠ rb := by omega
        have HGE : Hid (w.heap.size ≤ p ∧ w.heap.size ≤ q) := ⟨by omega, by omega⟩
        have HO : Hid (RowO W rb ve vc (.slice lo LN lcap) (.slice ho HN hcap) l com lf hp) := HH.out.touch (HT2.out.trans T3 (by simp))
        have HTW : Hid (Touch w W []) := HT2.out.trans T3 (by simp)
        have P4 : One W w.heap.size (ptr rb) 56 := One.touch HP2.out T3 (by simp)
        have Q4 : One W (w.heap.size + 1) (.int .i64 a) 3 := One.touch HQ2.out T3 (by simp)
        have HSW : Hid (w.heap.size ≤ W.heap.size) := HTW.out.size
        have HS4 : Hid (∀ W', Touch W W' [rb] → W'.cell? ⟨w.heap.size, 0, none⟩ = some (ptr rb) ∧ W'.cell? ⟨w.heap.size + 1, 0, none⟩ = some (.int .i64 a) ∧ W'.cell? ⟨p, 0, none⟩ = some (.slice lo LN lcap)) := fun W' t =>
          ⟨(One.touch P4 t (by simpa using hne_w)).cell, (One.touch Q4 t (by simpa using hne_w1)).cell, (One.touch P3 t (by simpa using hne_p)).cell⟩
        have HCN : Hid (∀ W', Touch W W' [] → Calls Try.prog 68 #[.slice lo LN lcap] W' (IntsPost W' lf)) := fun W' t => iclone_any (HO.out.touch t).lf HFL.out
        have HDL : Hid (∀ w4 v4 B, Touch W w4 [] → intOwn w4 B v4 lf → W.heap.size ≤ B → Calls Try.prog 62 #[v4, .func (.func 69) #[] #[ptr (w.heap.size + 1)]] w4 fun e w' => ∃ a5 n5 c5, e = .returned (.slice a5 n5 c5) ∧ intOwn w' B (.slice a5 n5 c5) (lf.filter fun o => !(o == a)) ∧ Touch W w' [] ∧ w'.cell? ⟨rb, 2, none⟩ = some (.slice lo LN lcap) ∧ w'.frozen? ⟨rb, 2, none⟩ = false) := fun w4 v4 B t hv hB => by
          have hb : ∀ g ∈ v4.ownBlock.toList, W.heap.size ≤ g := fun g hg => Nat.le_trans hB (hv.lt g (by simpa using hg)).1
          have hqW := lt_of_heap Q4
          refine (oput_delete (p := w.heap.size + 1) (q := 0) (f := fun o => o == a) hv HFL.out (fun W' t' x hx => put1_any (One.touch (One.touch Q4 t (by simp)) t' (fun hm => by have := hb _ hm; omega)) x)).mono ?_
          rintro e w' ⟨v', h1, h2, h3⟩
          have t5 : Touch W w' [] := t.trans h3 (fun x hx => .inr (hb x hx))
          have hr := (HO.out.touch t5).row
          obtain ⟨a5, c5, rfl⟩ := owns_slice h2
          exact ⟨a5, _, c5, h1, h2, t5, hr.cells.2.2.1, hr.frozen 2⟩
        have HQ4' : Hid (One W (w.heap.size + 1) (.int .i64 a) 3) := Q4
        have HP3 : Hid (One W p (.slice lo LN lcap) 24) := P3
        have HQ3 : Hid (One W q (.slice ho HN hcap) 23) := Q3
        have HP4 : Hid (One W w.heap.size (ptr rb) 56) := P4
        have hd : Touch W W.drew [] := (Touch.refl W []).drew
        have hd' : Touch W W.drew [rb] := (Touch.refl W [rb]).drew
        clear P3 Q3 P4 Q4 T3 HT2 HP2 HQ2 hrb2 hws2 hrb hp' hq c2 c3 p2 HS
        go_wp2_with fail
        go_region_held3 (fun W' => W'.cell? ⟨w.heap.size, 0, none⟩ = some (ptr rb) ∧ W'.cell? ⟨w.heap.size + 1, 0, none⟩ = some (.int .i64 a) ∧ W'.cell? ⟨p, 0, none⟩ = some (.slice lo LN lcap)) ((first | exact HS4.out _ hd' | exact HS4.out _ (t4.mono (by simp)) | exact HS4.out _ (t5.mono (by simp)) | exact HS4.out _ ((t5.mono (by simp)).setCell (.inl (by simp)) _))) ((first | (go_at_call 68; refine (HCN.out _ hd).mono ?_; rintro e w4 ⟨v4, rfl, hv4, t4'⟩; have t4 : Touch W w4 [] := hd.trans t4' (by simp)) | (go_at_call 62; refine (HDL.out w4 v4 _ t4 hv4 (Nat.le_refl _)).mono ?_; rintro e w5 ⟨a5, n5, c5, rfl, hv5, t5, k5, z5⟩)))
        all_goals (
          have T6 : Touch W (w5.setCell ⟨rb, 2, none⟩ (.slice a5 n5 c5)) [rb] := (t5.mono (by simp)).setCell (.inl (by simp)) _
          have hv5r := irow_of hv5
          have hv5b : ∀ g, (Value.slice a5 n5 c5).ownBlock = some g → W.heap.size ≤ g := fun g hg => (hv5.lt g hg).1
          have hrbW := lt_of_heap HO.out.row
          have HVB5 : Hid (∀ g, (Value.slice a5 n5 c5).ownBlock = some g → W.heap.size ≤ g) := hv5b
          have O6 : RowO (w5.setCell ⟨rb, 2, none⟩ (.slice a5 n5 c5)) rb ve vc (.slice a5 n5 c5) (.slice ho HN hcap) l com (lf.filter fun o => !(o == a)) hp :=
            (HO.out.touch t5).set ((Touch.refl w5 [rb]).setCell (.inl (by simp)) _) (rowAt_set2 (HO.out.touch t5).row _) hv5r (HO.out.touch t5).hp (fun _ e => by have := hv5b rb e; omega) HO.out.nl.2
          have HO6 : Hid (RowO (w5.setCell ⟨rb, 2, none⟩ (.slice a5 n5 c5)) rb ve vc (.slice a5 n5 c5) (.slice ho HN hcap) l com (lf.filter fun o => !(o == a)) hp) := O6
          have HT6 : Hid (Touch W (w5.setCell ⟨rb, 2, none⟩ (.slice a5 n5 c5)) [rb]) := T6
          clear hv4 t4 hv5 t5 k5 z5 hv5r O6 T6 hd hd' HCN HDL HS4
          generalize w5.setCell ⟨rb, 2, none⟩ (.slice a5 n5 c5) = W6 at *
          have P7 : One W6 w.heap.size (ptr rb) 56 := One.touch HP4.out HT6.out (by simpa using hne_w)
          have HQ4 : Hid (One W6 (w.heap.size + 1) (.int .i64 a) 3) := One.touch HQ4'.out HT6.out (by simpa using hne_w1)
          have HS7 : Hid (∀ W', Touch W6 W' [rb] → W'.cell? ⟨w.heap.size, 0, none⟩ = some (ptr rb) ∧ W'.cell? ⟨w.heap.size + 1, 0, none⟩ = some (.int .i64 a)) := fun W' t =>
            ⟨(One.touch P7 t (by simpa using hne_w)).cell, (One.touch HQ4.out t (by simpa using hne_w1)).cell⟩
          have HBH : Hid (∀ W', Touch W6 W' [] → Calls Try.prog 70 #[ptr rb, .int .i64 a] W' fun e w' => ∃ a8 n8 c8, e = .returned (.slice a8 n8 c8) ∧ valOwn w' W'.heap.size (.slice a8 n8 c8) (behP l com hp a) ∧ Touch W6 w' [] ∧ w'.cell? ⟨rb, 3, none⟩ = some (.slice ho HN hcap) ∧ w'.frozen? ⟨rb, 3, none⟩ = false) := fun W' t => by
            have o := HO6.out.touch t
            refine (obehind_any o.row o.ev hl HWF.out o.com HCL.out o.hp hhl a HOK.out).mono ?_
            rintro e w' ⟨v', h1, h2, h3⟩
            have t5 : Touch W6 w' [] := t.trans h3 (by simp)
            have hr := (HO6.out.touch t5).row
            obtain ⟨a8, c8, rfl⟩ := owns_slice h2
            exact ⟨a8, _, c8, h1, h2, t5, hr.cells.2.2.2, hr.frozen 3⟩
          have hd : Touch W6 W6.drew [] := (Touch.refl W6 []).drew
          have hd' : Touch W6 W6.drew [rb] := (Touch.refl W6 [rb]).drew
          have HP7 : Hid (One W6 w.heap.size (ptr rb) 56) := P7
          clear P7
          go_wp2_with fail
          go_region_held3 (fun W' => W'.cell? ⟨w.heap.size, 0, none⟩ = some (ptr rb) ∧ W'.cell? ⟨w.heap.size + 1, 0, none⟩ = some (.int .i64 a)) ((first | exact HS7.out _ hd' | exact HS7.out _ (t8.mono (by simp)) | exact HS7.out _ ((t8.mono (by simp)).setCell (.inl (by simp)) _))) ((go_at_call 70; refine (HBH.out _ hd).mono ?_; rintro e w8 ⟨a8, n8, c8, rfl, hv8, t8, k8, z8⟩))
          have T9 : Touch W6 (w8.setCell ⟨rb, 3, none⟩ (.slice a8 n8 c8)) [rb] := (t8.mono (by simp)).setCell (.inl (by simp)) _
          have hv8b : ∀ g, (Value.slice a8 n8 c8).ownBlock = some g → W6.heap.size ≤ g := fun g hg => (hv8.lt g hg).1
          have hrb6 := lt_of_heap HO6.out.row
          have HVB8 : Hid (∀ g, (Value.slice a8 n8 c8).ownBlock = some g → W6.heap.size ≤ g) := hv8b
          have HSZ6 : Hid (W.heap.size ≤ W6.heap.size) := HT6.out.size
          have HO9 : Hid (RowO (w8.setCell ⟨rb, 3, none⟩ (.slice a8 n8 c8)) rb ve vc (.slice a5 n5 c5) (.slice a8 n8 c8) l com (lf.filter fun o => !(o == a)) (behP l com hp a)) :=
            (HO6.out.touch t8).set ((Touch.refl w8 [rb]).setCell (.inl (by simp)) _) (rowAt_set3 (HO6.out.touch t8).row _) (HO6.out.touch t8).lf (vrow_of hv8) HO6.out.nl.1 (fun _ e => by have := hv8b rb e; omega)
          have HT9 : Hid (Touch W (w8.setCell ⟨rb, 3, none⟩ (.slice a8 n8 c8)) [rb]) := HT6.out.trans T9 (by intro x hx; exact .inl hx)
          clear hv8 t8 k8 z8 T9 hv8b hrb6 hd hd' HBH HS7 HO6 HT6
          generalize w8.setCell ⟨rb, 3, none⟩ (.slice a8 n8 c8) = W9 at *
          go_wp2
          go_ret2
          refine ⟨.func (.func 71) #[] #[ptr p, ptr q, ptr w.heap.size], .slice a5 n5 c5, .slice a8 n8 c8, by rw [HP.out]; rfl, by rw [HP.out]; exact HO9.out, ?_, fun _ => by rw [HLN.out, HHN.out]; exact ⟨⟨p, q, w.heap.size, rfl, One.touch HP3.out HT9.out (by simpa using hne_p), One.touch HQ3.out HT9.out (by simpa using hne_q), One.touch HP4.out HT9.out (by simpa using hne_w), hne_p, hne_q, hne_w, HGE.out.1, HGE.out.2, Nat.le_refl _⟩⟩, fun g hg => .inr (Nat.le_trans HSW.out (HVB5.out g hg)), fun g hg => .inr (Nat.le_trans HSW.out (Nat.le_trans HSZ6.out (HVB8.out g hg)))⟩
          exact (HTW.out.mono (by simp)).trans HT9.out (by intro x hx; exact .inl hx))

end Go.Proofs.Ytjacclbifeoclaa
