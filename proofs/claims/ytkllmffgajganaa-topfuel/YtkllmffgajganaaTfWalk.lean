/-
  TopFuel, WALKED.
-/
import Derived.Test.YtkllmffgajganaaTfPlain
import Derived.Test.YtkllmffgajganaaValueRefs2
import Derived.Test.YtkllmffgajganaaCapsOf
import Derived.Deep.QuietTactic
import Derived.BigQuiet
namespace Go.Proofs.Ytkllmffgajganaa
set_option linter.unusedVariables false
set_option linter.unusedSimpArgs false
open Go.RowKit
attribute [local go_sem] Oper.semAt_some

theorem Try.und_arr : Try.prog.underlying 26 = some (.array 4 25) := by kernel_rfl
theorem Try.und_val : Try.prog.underlying 25 = some (.int .u64) := by kernel_rfl
set_option maxRecDepth 100000 in
theorem eq4 (a b c d : Int) (w : World) : (Op.equalIn 10000 26 (.agg #[.int .u64 a, .int .u64 b, .int .u64 c, .int .u64 d]) (.agg #[.int .u64 a, .int .u64 b, .int .u64 c, .int .u64 d])).run Try.prog w = .ok true w := by
  obtain ⟨i0, hi, hz0, hz1, hz2⟩ := info_partsV Try.info_val
  have hq : ∀ x : Int, ∀ w : World, (Op.equalIn 9999 25 (.int .u64 x) (.int .u64 x)).run Try.prog w = .ok true w := fun x w => by
    have := run_equalIn_int (P := Try.prog) w 9998 25 .u64 .u64 x x Try.und_val
    simpa using this
  show (Op.equalIn (9999 + 1) _ _ _).run _ _ = _
  rw [Op.equalIn]
  simp only [Sem.run_bind, run_underlying Try.und_arr, Result.andThen_ok, sizeOf, typeInfo, hi, run_program, hz1, Sem.run_pure]
  have hr : List.range' 0 4 = [0, 1, 2, 3] := rfl
  simp [go_sem, part, hi, hz1, sizeOf, typeInfo, hq, hr, isAgg, run_underlying Try.und_val]

def kdR (r : Int × BX) : Int := if r.1 = 0 then 1 else if r.1 = -1 then 2 else 3
def erR (r : Int × BX) : Int := if r.1 = 0 then 0 else if r.1 = -1 then 0 else r.1
def dR (r : Int × BX) (D : WD) : WD := if r.1 = 0 then r.2.D else D
def hR (r : Int × BX) (h : List Int) : List Int := if r.1 = 0 then r.2.h else h
def naR (r : Int × BX) : Nat := if r.1 = 0 then r.2.arms.length else 0
/-- What Block tells, in one way. -/
def BlkQ (w : World) (kd : Int) (D : WD) (ns nh na : Nat) (H : List Int) (er : Int) (e : Ending) (w' : World) : Prop :=
  ∃ sa sc vo ha hc aa ac, e = .returned (.agg (outA kd D (.slice sa ns sc) vo (.slice ha nh hc) (.slice aa na ac) er)) ∧ VRow w' (.slice ha nh hc) H ∧ (∃ oa no oc, vo = .slice oa no oc) ∧ Touch w w' []
theorem BlkP.q {w : World} {r : Int × BX} {D : WD} {h : List Int} {e : Ending} {w' : World} (k : BlkP w r D h e w') : BlkQ w (kdR r) (dR r D) (dR r D).st.length (hR r h).length (naR r) (hR r h) (erR r) e w' := by
  rcases k with ⟨h0, vs, vo, vh, va, rfl, r1, r2, r3, r4, t⟩ | ⟨h0, vs, vo, vh, rfl, r1, r2, r3, t⟩
  · obtain ⟨sa, sc, rfl⟩ := r1.form
    obtain ⟨oa, oc, rfl⟩ := r2.form
    obtain ⟨ha, hc, rfl⟩ := r3.form
    obtain ⟨aa, ac, rfl⟩ := r4.form
    unfold kdR erR dR hR naR
    simp only [if_pos h0]
    exact ⟨sa, sc, _, ha, hc, aa, ac, rfl, r3, ⟨_, _, _, rfl⟩, t⟩
  · obtain ⟨sa, sc, rfl⟩ := r1.form
    obtain ⟨oa, oc, rfl⟩ := r2.form
    obtain ⟨ha, hc, rfl⟩ := r3.form
    unfold kdR erR dR hR naR
    simp only [if_neg h0]
    exact ⟨sa, sc, _, ha, hc, none, 0, rfl, r3, ⟨_, _, _, rfl⟩, t⟩
theorem more_same {l : List InsD} {D : WD} {h : List Int} {f g : Int} (hf : 0 ≤ f) (hg : 0 ≤ g) (hne : (outX l D h f).1 ≠ 11) :
    kdR (outX l D h (f + g)) = kdR (outX l D h f) ∧ erR (outX l D h (f + g)) = erR (outX l D h f) ∧ nfD (dR (outX l D h (f + g)) D) = nfD (dR (outX l D h f) D) ∧ hR (outX l D h (f + g)) h = hR (outX l D h f) h ∧ naR (outX l D h (f + g)) = naR (outX l D h f) := by
  obtain ⟨e1, e2⟩ := out_more l D h f g hf hg hne
  generalize outX l D h (f + g) = r2 at *
  generalize outX l D h f = r1 at *
  obtain ⟨a, X⟩ := r1
  obtain ⟨b, Y⟩ := r2
  simp only at e1 e2
  subst e1
  simp only [nfX, BX.mk.injEq] at e2
  obtain ⟨q1, q2, q3, q4⟩ := e2
  unfold kdR erR dR hR naR
  simp only
  refine ⟨trivial, trivial, ?_, ?_, ?_⟩
  · split
    · exact q1
    · rfl
  · split
    · exact q2
    · rfl
  · split
    · rw [q4]
    · rfl
theorem er_11 {r : Int × BX} (h : ¬ erR r = 11) : r.1 ≠ 11 := by
  intro e
  apply h
  unfold erR
  rw [if_neg (by omega), if_neg (by omega)]
  exact e
theorem er_kd {r : Int × BX} (h : erR r = 11) : kdR r = 3 := by
  unfold erR at h
  unfold kdR
  split at h
  · omega
  · rename_i h1
    split at h
    · omega
    · rename_i h2
      rw [if_neg h1, if_neg h2]
theorem here_right {l : List InsD} {pc : Int} {i : InsD} (h : hereP l pc = some i) : rightI i = true := by
  unfold hereP at h
  split at h
  · split at h
    · rename_i hr
      simp only [Option.some.injEq] at h
      rw [← h]; exact hr
    · cases h
  · cases h
theorem run_keep {l : List InsD} (hl : ∀ i ∈ l, i.Wf) : ∀ (n : Nat) (X : BX) (k : Nat), BW X k → (runB l n X).1 = 0 → (runB l n X).2.h.length ≤ 1000 := by
  intro n
  induction n with
  | zero =>
    intro X k h h0
    cases hh : hereP l X.D.pc with
    | none => simp only [runB, hh] at h0; omega
    | some i => simp only [runB, hh] at h0; omega
  | succ n ih =>
    intro X k h h0
    cases hh : hereP l X.D.pc with
    | none => simp only [runB, hh] at h0; omega
    | some i =>
      have hb : BW { X with D := { X.D with fuel := X.D.fuel - 1 } } k := ⟨h.s.fuel _, h.m, h.ms, h.arms⟩
      have ha := right_arg (here_right hh)
      rw [run_some hh] at h0 ⊢
      by_cases h1 : (doB l { X with D := { X.D with fuel := X.D.fuel - 1 } } i).1 = 0
      · have hk := do_keep hb hl (i := i) (fun _ => by omega) h1
        rw [if_pos h1] at h0 ⊢
        split
        · exact hk.s.hl
        · rename_i h22
          rw [if_neg h22] at h0
          exact ih _ _ hk h0
      · rw [if_neg h1] at h0
        exact absurd h0 h1
theorem out_hl {l : List InsD} (hl : ∀ i ∈ l, i.Wf) {D : WD} {h : List Int} (hS : SWf D h) (f : Int) : (hR (outX l D h f) h).length ≤ 1000 := by
  unfold hR
  split
  · rename_i h0
    unfold outX endB at h0 ⊢
    simp only at h0 ⊢
    split
    · rename_i hop
      rw [if_pos hop] at h0
      exact run_keep hl _ _ 0 ⟨⟨hS.st, hS.out, hS.hl, hS.ws, hS.wh, hS.w0, hS.w1, hS.w2, hS.w3⟩, fun m hm => (by cases hm), by simp, by simp⟩ h0
    · exact hS.hl
  · exact hS.hl
theorem kd_ne (r : Int × BX) : ¬ kdR r = 0 := by unfold kdR; split; decide; split <;> decide

set_option maxRecDepth 100000 in
set_option maxHeartbeats 4000000 in
theorem topfuel_cut {w : World} {ap : Option Addr} {cp n : Nat} {ah : Option Addr} {ch m : Nat} {l : List InsD} {h : List Int} (f g : Int) (hf : 0 ≤ f ∧ f ≤ 255) (hg : 0 ≤ g ∧ g ≤ 255) (hn : n ≤ cp) (hcp : cp ≤ 9223372036854775807) (hm : m ≤ ch) (hch : ch ≤ 9223372036854775807)
    (hl : InsRow w (.slice ap (if 64 < n then 64 else n) cp) l) (hll : l.length = if 64 < n then 64 else n) (hlw : ∀ i ∈ l, i.Wf) (hh : VRow w (.slice ah (if 12 < m then 12 else m) ch) h) (hhl : h.length = if 12 < m then 12 else m) (hhw : ∀ x ∈ h, Wf64 x) (hnz : ap = none → n = 0) (hmz : ah = none → m = 0) :
    Calls Try.prog 6 #[.slice ap n cp, .slice ah m ch, .agg #[.int .u8 f, .int .u8 g]] w fun e w' => e = .returned (.bool true) ∧ Touch w w' [] := by
  have hl2 : InsRow w (.slice ap l.length cp) l := by rw [hll]; exact hl
  have hh2 : VRow w (.slice ah h.length ch) h := by rw [hhl]; exact hh
  have b1 : l.length ≤ 64 := by rw [hll]; split <;> omega
  have b2 : h.length ≤ 12 := by rw [hhl]; split <;> omega
  have HBK : Hid (∀ W q, Touch w W [] → HidC Try.prog 15 #[.slice ap (if 64 < n then 64 else n) cp, stV zWD (.slice none 0 0) (.slice none 0 0), .slice ah (if 12 < m then 12 else m) ch, .int .i64 q] W (BlkQ W (kdR (outX l zWD h q)) (dR (outX l zWD h q) zWD) (dR (outX l zWD h q) zWD).st.length (hR (outX l zWD h q) h).length (naR (outX l zWD h q)) (hR (outX l zWD h q) h) (erR (outX l zWD h q)))) := fun W q t => by
    refine ⟨?_⟩
    rw [← hll, ← hhl]
    have nil : VRow W (.slice none 0 0) ([] : List Int) := ⟨none, 0, rfl, fun h => absurd rfl h⟩
    exact (block_any (D := zWD) nil nil (SRow.keep hh2 t (by simp)) (SRow.keep hl2 t (by simp)) (by omega) hlw ⟨by simp, by simp, by omega, fun x hx => (by cases hx), hhw, wf_zero, wf_zero, wf_zero, wf_zero⟩ q ⟨by decide, by decide⟩).mono fun e w' k => k.q
  have HB1 : Hid (∀ W, Touch w W [] → _) := fun W t => HBK.out W f t
  have HB2 : Hid (∀ W, Touch w W [] → _) := fun W t => HBK.out W (f + g) t
  have HMORE : Hid (¬ erR (outX l zWD h f) = 11 → _) := fun hne => more_same (l := l) (D := zWD) (h := h) (f := f) (g := g) hf.1 hg.1 (er_11 hne)
  have HKD : Hid (erR (outX l zWD h f) = 11 → kdR (outX l zWD h f) = 3) := er_kd
  have HKN : Hid (¬ kdR (outX l zWD h f) = 0) := kd_ne _
  have HHL : Hid ((hR (outX l zWD h f) h).length ≤ 1000) := out_hl hlw ⟨by simp, by simp, by omega, fun x hx => (by cases hx), hhw, wf_zero, wf_zero, wf_zero, wf_zero⟩ f
  have HAP : Hid (64 < n → ∃ g off, ap = some ⟨g, off, none⟩) := fun q => by obtain ⟨g, off, e, _⟩ := hl2.at 0 (by rw [hll, if_pos q]; decide); exact ⟨g, off, e⟩
  have HAH : Hid (12 < m → ∃ g off, ah = some ⟨g, off, none⟩) := fun q => by obtain ⟨g, off, e, _⟩ := hh2.at 0 (by rw [hhl, if_pos q]; decide); exact ⟨g, off, e⟩
  have hwf : IntKind.i64.wrap f = f := by rw [IntKind.wrap_i64]; omega
  have hwg : IntKind.i64.wrap g = g := by rw [IntKind.wrap_i64]; omega
  have hwfg : IntKind.i64.wrap (f + g) = f + g := by rw [IntKind.wrap_i64]; omega
  generalize outX l zWD h f = r1 at *
  generalize outX l zWD h (f + g) = r2 at *
  have HSAME : Hid (∀ W, HidC Try.prog 19 #[.int .u64 4607182418800017408, .int .u64 4607182418800017408] W fun e w' => e = .returned (.bool true) ∧ W = w') := fun W => ⟨by have := same_any 4607182418800017408 4607182418800017408 W; simpa using this⟩
  clear hl hll hlw hh hhl hhw hl2 hh2 b1 b2 HBK hnz hmz
  have tA : Touch w (w.alloc (.cells #[.int .u8 f, .int .u8 g] 45)) [] := (Touch.refl w []).alloc _
  have HBX : Hid (∀ W, Touch (w.alloc (.cells #[.int .u8 f, .int .u8 g] 45)) W [] → W.cell? ⟨w.heap.size, 0, none⟩ = some (.int .u8 f) ∧ W.cell? ⟨w.heap.size, 1, none⟩ = some (.int .u8 g)) := fun W t => by
    have hb := (t.block w.heap.size (by simp) (by simp)).trans (heap_alloc_new w (.cells #[.int .u8 f, .int .u8 g] 45))
    exact ⟨by unfold World.cell?; rw [hb]; rfl, by unfold World.cell?; rw [hb]; rfl⟩
  have HTA : Hid _ := tA
  obtain ⟨x0, x1⟩ := HBX.out _ (Touch.refl _ [])
  clear tA hf hg
  by_cases her : erR r1 = 11
  · have hk3 := HKD.out her
    rw [her, hk3] at HB1
    generalize hR r1 h = H1 at *
    generalize H1.length = nh1 at *
    generalize dR r1 zWD = D1 at *
    generalize D1.st.length = ns1 at *
    generalize naR r1 = na1 at *
    clear HMORE HKD HKN her hk3 HHL
    by_cases h64 : 64 < n
    · obtain ⟨gl, ol, rfl⟩ := HAP.out h64
      simp only [if_pos h64] at HB1 HB2
      have h64a : (64 : Int) < n := by omega
      have h64b : (64 : Int) ≤ cp := by omega
      have h64c : 64 ≤ cp := by omega
      by_cases h12 : 12 < m
      · obtain ⟨gh, oh, rfl⟩ := HAH.out h12
        simp only [if_pos h12] at HB1 HB2
        have h12a : (12 : Int) < m := by omega
        have h12b : (12 : Int) ≤ ch := by omega
        have h12c : 12 ≤ ch := by omega
        clear HAP HAH h64 h12
        go_enter Try.func6, Try.ntmps6
        go_wp2_with fail
        refine (HB1.out _ HTA.out).out.mono ?_
        rintro e w1 ⟨sa, sc, vo1, ha, hc, aa, ac, rfl, rv1, ⟨oa, no, oc, rfl⟩, t1⟩
        have t1A : Touch w1 (w1.alloc (.cells (outA 3 D1 (.slice sa ns1 sc) (.slice oa no oc) (.slice ha nh1 hc) (.slice aa na1 ac) 11) 41)) [] := (Touch.refl w1 []).alloc _
        obtain ⟨y0, y1⟩ := HBX.out _ (t1.trans t1A (by simp))
        have HT1 : Hid _ := HTA.out.trans (t1.trans t1A (by simp)) (by simp)
        have HO1 : Hid (OutB (w1.alloc (.cells (outA 3 D1 (.slice sa ns1 sc) (.slice oa no oc) (.slice ha nh1 hc) (.slice aa na1 ac) 11) 41)) w1.heap.size (outA 3 D1 (.slice sa ns1 sc) (.slice oa no oc) (.slice ha nh1 hc) (.slice aa na1 ac) 11)) := ⟨heap_alloc_new w1 _⟩
        have HV1 : Hid _ := SRow.keep rv1 t1A (by simp)
        clear t1 t1A rv1 x0 x1 HB1
        go_wp2_with fail
        refine (HB2.out _ HT1.out).out.mono ?_
        rintro e w2 ⟨sa2, sc2, vo2, ha2, hc2, aa2, ac2, rfl, _, ⟨oa2, no2, oc2, rfl⟩, t2⟩
        generalize erR r2 = er2 at *
        generalize kdR r2 = kd2 at *
        generalize dR r2 zWD = D2 at *
        generalize D2.st.length = ns2 at *
        generalize naR r2 = na2 at *
        generalize (hR r2 h).length = nh2 at *
        have t2A : Touch w2 (w2.alloc (.cells (outA kd2 D2 (.slice sa2 ns2 sc2) (.slice oa2 no2 oc2) (.slice ha2 nh2 hc2) (.slice aa2 na2 ac2) er2) 41)) [] := (Touch.refl w2 []).alloc _
        have hO := HO1.out.touch (t2.trans t2A (by simp)) (by simp)
        have HT2 : Hid _ := HT1.out.trans (t2.trans t2A (by simp)) (by simp)
        have ku0 := hO.cell 0
        have ku1 := hO.cell 1
        have ku2 := hO.cell 2
        have ku3 := hO.cell 3
        have ku4 := hO.cell 4
        have ku5 := hO.cell 5
        have ku6 := hO.cell 6
        have ku7 := hO.cell 7
        have ku8 := hO.cell 8
        have ku9 := hO.cell 9
        have ku10 := hO.cell 10
        simp at ku0 ku1 ku2 ku3 ku4 ku5 ku6 ku7 ku8 ku9 ku10
        clear hO t2 t2A HO1 HV1 HB2 y0 y1
        go_wp2_with fail
        refine (HSAME.out _).out.mono ?_
        rintro e _ ⟨rfl, rfl⟩
        go_wp2
        go_ret
        exact ⟨rfl, HT2.out⟩
      · simp only [if_neg h12] at HB1 HB2
        have h12a : ¬ (12 : Int) < m := by omega
        clear HAP HAH h64 h12
        go_enter Try.func6, Try.ntmps6
        go_wp2_with fail
        refine (HB1.out _ HTA.out).out.mono ?_
        rintro e w1 ⟨sa, sc, vo1, ha, hc, aa, ac, rfl, rv1, ⟨oa, no, oc, rfl⟩, t1⟩
        have t1A : Touch w1 (w1.alloc (.cells (outA 3 D1 (.slice sa ns1 sc) (.slice oa no oc) (.slice ha nh1 hc) (.slice aa na1 ac) 11) 41)) [] := (Touch.refl w1 []).alloc _
        obtain ⟨y0, y1⟩ := HBX.out _ (t1.trans t1A (by simp))
        have HT1 : Hid _ := HTA.out.trans (t1.trans t1A (by simp)) (by simp)
        have HO1 : Hid (OutB (w1.alloc (.cells (outA 3 D1 (.slice sa ns1 sc) (.slice oa no oc) (.slice ha nh1 hc) (.slice aa na1 ac) 11) 41)) w1.heap.size (outA 3 D1 (.slice sa ns1 sc) (.slice oa no oc) (.slice ha nh1 hc) (.slice aa na1 ac) 11)) := ⟨heap_alloc_new w1 _⟩
        have HV1 : Hid _ := SRow.keep rv1 t1A (by simp)
        clear t1 t1A rv1 x0 x1 HB1
        go_wp2_with fail
        refine (HB2.out _ HT1.out).out.mono ?_
        rintro e w2 ⟨sa2, sc2, vo2, ha2, hc2, aa2, ac2, rfl, _, ⟨oa2, no2, oc2, rfl⟩, t2⟩
        generalize erR r2 = er2 at *
        generalize kdR r2 = kd2 at *
        generalize dR r2 zWD = D2 at *
        generalize D2.st.length = ns2 at *
        generalize naR r2 = na2 at *
        generalize (hR r2 h).length = nh2 at *
        have t2A : Touch w2 (w2.alloc (.cells (outA kd2 D2 (.slice sa2 ns2 sc2) (.slice oa2 no2 oc2) (.slice ha2 nh2 hc2) (.slice aa2 na2 ac2) er2) 41)) [] := (Touch.refl w2 []).alloc _
        have hO := HO1.out.touch (t2.trans t2A (by simp)) (by simp)
        have HT2 : Hid _ := HT1.out.trans (t2.trans t2A (by simp)) (by simp)
        have ku0 := hO.cell 0
        have ku1 := hO.cell 1
        have ku2 := hO.cell 2
        have ku3 := hO.cell 3
        have ku4 := hO.cell 4
        have ku5 := hO.cell 5
        have ku6 := hO.cell 6
        have ku7 := hO.cell 7
        have ku8 := hO.cell 8
        have ku9 := hO.cell 9
        have ku10 := hO.cell 10
        simp at ku0 ku1 ku2 ku3 ku4 ku5 ku6 ku7 ku8 ku9 ku10
        clear hO t2 t2A HO1 HV1 HB2 y0 y1
        go_wp2_with fail
        refine (HSAME.out _).out.mono ?_
        rintro e _ ⟨rfl, rfl⟩
        go_wp2
        go_ret
        exact ⟨rfl, HT2.out⟩
    · simp only [if_neg h64] at HB1 HB2
      have h64a : ¬ (64 : Int) < n := by omega
      by_cases h12 : 12 < m
      · obtain ⟨gh, oh, rfl⟩ := HAH.out h12
        simp only [if_pos h12] at HB1 HB2
        have h12a : (12 : Int) < m := by omega
        have h12b : (12 : Int) ≤ ch := by omega
        have h12c : 12 ≤ ch := by omega
        clear HAP HAH h64 h12
        go_enter Try.func6, Try.ntmps6
        go_wp2_with fail
        refine (HB1.out _ HTA.out).out.mono ?_
        rintro e w1 ⟨sa, sc, vo1, ha, hc, aa, ac, rfl, rv1, ⟨oa, no, oc, rfl⟩, t1⟩
        have t1A : Touch w1 (w1.alloc (.cells (outA 3 D1 (.slice sa ns1 sc) (.slice oa no oc) (.slice ha nh1 hc) (.slice aa na1 ac) 11) 41)) [] := (Touch.refl w1 []).alloc _
        obtain ⟨y0, y1⟩ := HBX.out _ (t1.trans t1A (by simp))
        have HT1 : Hid _ := HTA.out.trans (t1.trans t1A (by simp)) (by simp)
        have HO1 : Hid (OutB (w1.alloc (.cells (outA 3 D1 (.slice sa ns1 sc) (.slice oa no oc) (.slice ha nh1 hc) (.slice aa na1 ac) 11) 41)) w1.heap.size (outA 3 D1 (.slice sa ns1 sc) (.slice oa no oc) (.slice ha nh1 hc) (.slice aa na1 ac) 11)) := ⟨heap_alloc_new w1 _⟩
        have HV1 : Hid _ := SRow.keep rv1 t1A (by simp)
        clear t1 t1A rv1 x0 x1 HB1
        go_wp2_with fail
        refine (HB2.out _ HT1.out).out.mono ?_
        rintro e w2 ⟨sa2, sc2, vo2, ha2, hc2, aa2, ac2, rfl, _, ⟨oa2, no2, oc2, rfl⟩, t2⟩
        generalize erR r2 = er2 at *
        generalize kdR r2 = kd2 at *
        generalize dR r2 zWD = D2 at *
        generalize D2.st.length = ns2 at *
        generalize naR r2 = na2 at *
        generalize (hR r2 h).length = nh2 at *
        have t2A : Touch w2 (w2.alloc (.cells (outA kd2 D2 (.slice sa2 ns2 sc2) (.slice oa2 no2 oc2) (.slice ha2 nh2 hc2) (.slice aa2 na2 ac2) er2) 41)) [] := (Touch.refl w2 []).alloc _
        have hO := HO1.out.touch (t2.trans t2A (by simp)) (by simp)
        have HT2 : Hid _ := HT1.out.trans (t2.trans t2A (by simp)) (by simp)
        have ku0 := hO.cell 0
        have ku1 := hO.cell 1
        have ku2 := hO.cell 2
        have ku3 := hO.cell 3
        have ku4 := hO.cell 4
        have ku5 := hO.cell 5
        have ku6 := hO.cell 6
        have ku7 := hO.cell 7
        have ku8 := hO.cell 8
        have ku9 := hO.cell 9
        have ku10 := hO.cell 10
        simp at ku0 ku1 ku2 ku3 ku4 ku5 ku6 ku7 ku8 ku9 ku10
        clear hO t2 t2A HO1 HV1 HB2 y0 y1
        go_wp2_with fail
        refine (HSAME.out _).out.mono ?_
        rintro e _ ⟨rfl, rfl⟩
        go_wp2
        go_ret
        exact ⟨rfl, HT2.out⟩
      · simp only [if_neg h12] at HB1 HB2
        have h12a : ¬ (12 : Int) < m := by omega
        clear HAP HAH h64 h12
        go_enter Try.func6, Try.ntmps6
        go_wp2_with fail
        refine (HB1.out _ HTA.out).out.mono ?_
        rintro e w1 ⟨sa, sc, vo1, ha, hc, aa, ac, rfl, rv1, ⟨oa, no, oc, rfl⟩, t1⟩
        have t1A : Touch w1 (w1.alloc (.cells (outA 3 D1 (.slice sa ns1 sc) (.slice oa no oc) (.slice ha nh1 hc) (.slice aa na1 ac) 11) 41)) [] := (Touch.refl w1 []).alloc _
        obtain ⟨y0, y1⟩ := HBX.out _ (t1.trans t1A (by simp))
        have HT1 : Hid _ := HTA.out.trans (t1.trans t1A (by simp)) (by simp)
        have HO1 : Hid (OutB (w1.alloc (.cells (outA 3 D1 (.slice sa ns1 sc) (.slice oa no oc) (.slice ha nh1 hc) (.slice aa na1 ac) 11) 41)) w1.heap.size (outA 3 D1 (.slice sa ns1 sc) (.slice oa no oc) (.slice ha nh1 hc) (.slice aa na1 ac) 11)) := ⟨heap_alloc_new w1 _⟩
        have HV1 : Hid _ := SRow.keep rv1 t1A (by simp)
        clear t1 t1A rv1 x0 x1 HB1
        go_wp2_with fail
        refine (HB2.out _ HT1.out).out.mono ?_
        rintro e w2 ⟨sa2, sc2, vo2, ha2, hc2, aa2, ac2, rfl, _, ⟨oa2, no2, oc2, rfl⟩, t2⟩
        generalize erR r2 = er2 at *
        generalize kdR r2 = kd2 at *
        generalize dR r2 zWD = D2 at *
        generalize D2.st.length = ns2 at *
        generalize naR r2 = na2 at *
        generalize (hR r2 h).length = nh2 at *
        have t2A : Touch w2 (w2.alloc (.cells (outA kd2 D2 (.slice sa2 ns2 sc2) (.slice oa2 no2 oc2) (.slice ha2 nh2 hc2) (.slice aa2 na2 ac2) er2) 41)) [] := (Touch.refl w2 []).alloc _
        have hO := HO1.out.touch (t2.trans t2A (by simp)) (by simp)
        have HT2 : Hid _ := HT1.out.trans (t2.trans t2A (by simp)) (by simp)
        have ku0 := hO.cell 0
        have ku1 := hO.cell 1
        have ku2 := hO.cell 2
        have ku3 := hO.cell 3
        have ku4 := hO.cell 4
        have ku5 := hO.cell 5
        have ku6 := hO.cell 6
        have ku7 := hO.cell 7
        have ku8 := hO.cell 8
        have ku9 := hO.cell 9
        have ku10 := hO.cell 10
        simp at ku0 ku1 ku2 ku3 ku4 ku5 ku6 ku7 ku8 ku9 ku10
        clear hO t2 t2A HO1 HV1 HB2 y0 y1
        go_wp2_with fail
        refine (HSAME.out _).out.mono ?_
        rintro e _ ⟨rfl, rfl⟩
        go_wp2
        go_ret
        exact ⟨rfl, HT2.out⟩
  · obtain ⟨e1, e2, e3, e4, e5⟩ := HMORE.out her
    rw [e1, e2, e4, e5] at HB2
    have HERN : Hid _ := her
    generalize hR r1 h = H1 at *
    generalize kdR r1 = kd1 at *
    generalize erR r1 = er1 at *
    generalize naR r1 = na1 at *
    generalize dR r1 zWD = D1 at *
    generalize dR r2 zWD = D2 at *
    obtain ⟨p1, st1, a1, b1, c1, d1, o1, fu1⟩ := D1
    obtain ⟨p2, st2, a2, b2, c2, d2, o2, fu2⟩ := D2
    simp only [nfD, WD.mk.injEq, and_true] at e3
    obtain ⟨rfl, rfl, rfl, rfl, rfl, rfl, rfl⟩ := e3
    simp only at HB1 HB2
    obtain ⟨nh1, hnh⟩ : ∃ nh1, nh1 = H1.length := ⟨_, rfl⟩
    have HNH : Hid _ := hnh
    rw [← hnh] at HB1 HB2 HHL
    generalize st2.length = ns1 at *
    have hkn := HKN.out
    clear HMORE HKD HKN e1 e2 e4 e5 hnh
    by_cases h64 : 64 < n
    · obtain ⟨gl, ol, rfl⟩ := HAP.out h64
      simp only [if_pos h64] at HB1 HB2
      have h64a : (64 : Int) < n := by omega
      have h64b : (64 : Int) ≤ cp := by omega
      have h64c : 64 ≤ cp := by omega
      by_cases h12 : 12 < m
      · obtain ⟨gh, oh, rfl⟩ := HAH.out h12
        simp only [if_pos h12] at HB1 HB2
        have h12a : (12 : Int) < m := by omega
        have h12b : (12 : Int) ≤ ch := by omega
        have h12c : 12 ≤ ch := by omega
        clear HAP HAH h64 h12
        go_enter Try.func6, Try.ntmps6
        go_wp2_with fail
        refine (HB1.out _ HTA.out).out.mono ?_
        rintro e w1 ⟨sa, sc, vo1, ha, hc, aa, ac, rfl, rv1, ⟨oa, no, oc, rfl⟩, t1⟩
        have t1A : Touch w1 (w1.alloc (.cells (outA kd1 ⟨p2, st2, a2, b2, c2, d2, o2, fu1⟩ (.slice sa ns1 sc) (.slice oa no oc) (.slice ha nh1 hc) (.slice aa na1 ac) er1) 41)) [] := (Touch.refl w1 []).alloc _
        obtain ⟨y0, y1⟩ := HBX.out _ (t1.trans t1A (by simp))
        have HT1 : Hid _ := HTA.out.trans (t1.trans t1A (by simp)) (by simp)
        have HO1 : Hid (OutB (w1.alloc (.cells (outA kd1 ⟨p2, st2, a2, b2, c2, d2, o2, fu1⟩ (.slice sa ns1 sc) (.slice oa no oc) (.slice ha nh1 hc) (.slice aa na1 ac) er1) 41)) w1.heap.size (outA kd1 ⟨p2, st2, a2, b2, c2, d2, o2, fu1⟩ (.slice sa ns1 sc) (.slice oa no oc) (.slice ha nh1 hc) (.slice aa na1 ac) er1)) := ⟨heap_alloc_new w1 _⟩
        have HV1 : Hid _ := SRow.keep rv1 t1A (by simp)
        clear t1 t1A rv1 x0 x1 HB1
        go_wp2_with fail
        refine (HB2.out _ HT1.out).out.mono ?_
        rintro e w2 ⟨sa2, sc2, vo2, ha2, hc2, aa2, ac2, rfl, rv2, ⟨oa2, no2, oc2, rfl⟩, t2⟩
        have t2A : Touch w2 (w2.alloc (.cells (outA kd1 ⟨p2, st2, a2, b2, c2, d2, o2, fu2⟩ (.slice sa2 ns1 sc2) (.slice oa2 no2 oc2) (.slice ha2 nh1 hc2) (.slice aa2 na1 ac2) er1) 41)) [] := (Touch.refl w2 []).alloc _
        have hO := HO1.out.touch (t2.trans t2A (by simp)) (by simp)
        have hP : OutB (w2.alloc (.cells (outA kd1 ⟨p2, st2, a2, b2, c2, d2, o2, fu2⟩ (.slice sa2 ns1 sc2) (.slice oa2 no2 oc2) (.slice ha2 nh1 hc2) (.slice aa2 na1 ac2) er1) 41)) w2.heap.size (outA kd1 ⟨p2, st2, a2, b2, c2, d2, o2, fu2⟩ (.slice sa2 ns1 sc2) (.slice oa2 no2 oc2) (.slice ha2 nh1 hc2) (.slice aa2 na1 ac2) er1) := ⟨heap_alloc_new w2 _⟩
        have HT2 : Hid _ := HT1.out.trans (t2.trans t2A (by simp)) (by simp)
        have HVA : Hid _ := SRow.keep HV1.out (t2.trans t2A (by simp)) (by simp)
        have HVB : Hid _ := SRow.keep rv2 t2A (by simp)
        have HOA : Hid _ := hO
        have HOB : Hid _ := hP
        have ku0 := hO.cell 0
        have ku1 := hO.cell 1
        have ku2 := hO.cell 2
        have ku3 := hO.cell 3
        have ku4 := hO.cell 4
        have ku5 := hO.cell 5
        have ku6 := hO.cell 6
        have ku7 := hO.cell 7
        have ku8 := hO.cell 8
        have ku9 := hO.cell 9
        have ku10 := hO.cell 10
        simp at ku0 ku1 ku2 ku3 ku4 ku5 ku6 ku7 ku8 ku9 ku10
        clear hO hP t2 t2A rv2 HO1 HV1 HB2 y0 y1
        have her := HERN.out
        have heq := eq4 a2 b2 c2 d2
        go_wp2_with fail
        generalize w1.heap.size = p7 at *
        generalize w2.heap.size = p8 at *
        generalize (w2.alloc _) = W2 at *
        go_loopw [9] (fun i wr => ∃ k : Nat, i = .int .i64 k ∧ k ≤ nh1 ∧ Touch W2 wr []) (fun i _ => nh1 - (intOf i).toNat)
        case atStart => exact ⟨0, rfl, Nat.zero_le _, Touch.refl _ _⟩
        case round =>
          obtain ⟨k, rfl, hk, tr⟩ := hrel
          have OA := HOA.out.touch tr (by simp)
          have OB := HOB.out.touch tr (by simp)
          have U0 := OA.cell 0
          have U8 := OA.cell 8
          have V8 := OB.cell 8
          simp only [outA, List.getElem?_toArray, List.getElem?_cons_zero, List.getElem?_cons_succ] at U0 U8 V8
          have HTR : Hid _ := tr
          clear ku0 ku1 ku2 ku3 ku4 ku5 ku6 ku7 ku8 ku9 ku10 OA OB
          by_cases hlt : k < nh1
          · have h1 : (k : Int) < nh1 := by omega
            have h0 : (0 : Int) ≤ k := by omega
            have hnl := HHL.out
            have hwk : IntKind.i64.wrap ((k : Int) + 1) = (k : Int) + 1 := by rw [IntKind.wrap_i64]; omega
            obtain ⟨g1, q1, rfl, hc1⟩ := vrow_at (SRow.keep HVA.out tr (by simp)) HNH.out.symm (by omega)
            obtain ⟨g2, q2, rfl, hc2'⟩ := vrow_at (SRow.keep HVB.out tr (by simp)) HNH.out.symm (by omega)
            have y1 := hc1 k hlt
            have y2 := hc2' k hlt
            clear hc1 hc2' tr
            generalize H1.getD k 0 = x at *
            go_wp2_with fail
            go_quiet (fail)
            go_wp2
            go_roundw
            case rel => exact ⟨k + 1, by go_num, by omega, HTR.out.drewN _⟩
            case measure => simp [intOf]; omega
          · have h1 : ¬ (k : Int) < nh1 := by omega
            clear tr
            go_wp2
            go_ret
            exact ⟨by simp [hkn], HT2.out.trans HTR.out (by simp)⟩
      · simp only [if_neg h12] at HB1 HB2
        have h12a : ¬ (12 : Int) < m := by omega
        clear HAP HAH h64 h12
        go_enter Try.func6, Try.ntmps6
        go_wp2_with fail
        refine (HB1.out _ HTA.out).out.mono ?_
        rintro e w1 ⟨sa, sc, vo1, ha, hc, aa, ac, rfl, rv1, ⟨oa, no, oc, rfl⟩, t1⟩
        have t1A : Touch w1 (w1.alloc (.cells (outA kd1 ⟨p2, st2, a2, b2, c2, d2, o2, fu1⟩ (.slice sa ns1 sc) (.slice oa no oc) (.slice ha nh1 hc) (.slice aa na1 ac) er1) 41)) [] := (Touch.refl w1 []).alloc _
        obtain ⟨y0, y1⟩ := HBX.out _ (t1.trans t1A (by simp))
        have HT1 : Hid _ := HTA.out.trans (t1.trans t1A (by simp)) (by simp)
        have HO1 : Hid (OutB (w1.alloc (.cells (outA kd1 ⟨p2, st2, a2, b2, c2, d2, o2, fu1⟩ (.slice sa ns1 sc) (.slice oa no oc) (.slice ha nh1 hc) (.slice aa na1 ac) er1) 41)) w1.heap.size (outA kd1 ⟨p2, st2, a2, b2, c2, d2, o2, fu1⟩ (.slice sa ns1 sc) (.slice oa no oc) (.slice ha nh1 hc) (.slice aa na1 ac) er1)) := ⟨heap_alloc_new w1 _⟩
        have HV1 : Hid _ := SRow.keep rv1 t1A (by simp)
        clear t1 t1A rv1 x0 x1 HB1
        go_wp2_with fail
        refine (HB2.out _ HT1.out).out.mono ?_
        rintro e w2 ⟨sa2, sc2, vo2, ha2, hc2, aa2, ac2, rfl, rv2, ⟨oa2, no2, oc2, rfl⟩, t2⟩
        have t2A : Touch w2 (w2.alloc (.cells (outA kd1 ⟨p2, st2, a2, b2, c2, d2, o2, fu2⟩ (.slice sa2 ns1 sc2) (.slice oa2 no2 oc2) (.slice ha2 nh1 hc2) (.slice aa2 na1 ac2) er1) 41)) [] := (Touch.refl w2 []).alloc _
        have hO := HO1.out.touch (t2.trans t2A (by simp)) (by simp)
        have hP : OutB (w2.alloc (.cells (outA kd1 ⟨p2, st2, a2, b2, c2, d2, o2, fu2⟩ (.slice sa2 ns1 sc2) (.slice oa2 no2 oc2) (.slice ha2 nh1 hc2) (.slice aa2 na1 ac2) er1) 41)) w2.heap.size (outA kd1 ⟨p2, st2, a2, b2, c2, d2, o2, fu2⟩ (.slice sa2 ns1 sc2) (.slice oa2 no2 oc2) (.slice ha2 nh1 hc2) (.slice aa2 na1 ac2) er1) := ⟨heap_alloc_new w2 _⟩
        have HT2 : Hid _ := HT1.out.trans (t2.trans t2A (by simp)) (by simp)
        have HVA : Hid _ := SRow.keep HV1.out (t2.trans t2A (by simp)) (by simp)
        have HVB : Hid _ := SRow.keep rv2 t2A (by simp)
        have HOA : Hid _ := hO
        have HOB : Hid _ := hP
        have ku0 := hO.cell 0
        have ku1 := hO.cell 1
        have ku2 := hO.cell 2
        have ku3 := hO.cell 3
        have ku4 := hO.cell 4
        have ku5 := hO.cell 5
        have ku6 := hO.cell 6
        have ku7 := hO.cell 7
        have ku8 := hO.cell 8
        have ku9 := hO.cell 9
        have ku10 := hO.cell 10
        simp at ku0 ku1 ku2 ku3 ku4 ku5 ku6 ku7 ku8 ku9 ku10
        clear hO hP t2 t2A rv2 HO1 HV1 HB2 y0 y1
        have her := HERN.out
        have heq := eq4 a2 b2 c2 d2
        go_wp2_with fail
        generalize w1.heap.size = p7 at *
        generalize w2.heap.size = p8 at *
        generalize (w2.alloc _) = W2 at *
        go_loopw [9] (fun i wr => ∃ k : Nat, i = .int .i64 k ∧ k ≤ nh1 ∧ Touch W2 wr []) (fun i _ => nh1 - (intOf i).toNat)
        case atStart => exact ⟨0, rfl, Nat.zero_le _, Touch.refl _ _⟩
        case round =>
          obtain ⟨k, rfl, hk, tr⟩ := hrel
          have OA := HOA.out.touch tr (by simp)
          have OB := HOB.out.touch tr (by simp)
          have U0 := OA.cell 0
          have U8 := OA.cell 8
          have V8 := OB.cell 8
          simp only [outA, List.getElem?_toArray, List.getElem?_cons_zero, List.getElem?_cons_succ] at U0 U8 V8
          have HTR : Hid _ := tr
          clear ku0 ku1 ku2 ku3 ku4 ku5 ku6 ku7 ku8 ku9 ku10 OA OB
          by_cases hlt : k < nh1
          · have h1 : (k : Int) < nh1 := by omega
            have h0 : (0 : Int) ≤ k := by omega
            have hnl := HHL.out
            have hwk : IntKind.i64.wrap ((k : Int) + 1) = (k : Int) + 1 := by rw [IntKind.wrap_i64]; omega
            obtain ⟨g1, q1, rfl, hc1⟩ := vrow_at (SRow.keep HVA.out tr (by simp)) HNH.out.symm (by omega)
            obtain ⟨g2, q2, rfl, hc2'⟩ := vrow_at (SRow.keep HVB.out tr (by simp)) HNH.out.symm (by omega)
            have y1 := hc1 k hlt
            have y2 := hc2' k hlt
            clear hc1 hc2' tr
            generalize H1.getD k 0 = x at *
            go_wp2_with fail
            go_quiet (fail)
            go_wp2
            go_roundw
            case rel => exact ⟨k + 1, by go_num, by omega, HTR.out.drewN _⟩
            case measure => simp [intOf]; omega
          · have h1 : ¬ (k : Int) < nh1 := by omega
            clear tr
            go_wp2
            go_ret
            exact ⟨by simp [hkn], HT2.out.trans HTR.out (by simp)⟩
    · simp only [if_neg h64] at HB1 HB2
      have h64a : ¬ (64 : Int) < n := by omega
      by_cases h12 : 12 < m
      · obtain ⟨gh, oh, rfl⟩ := HAH.out h12
        simp only [if_pos h12] at HB1 HB2
        have h12a : (12 : Int) < m := by omega
        have h12b : (12 : Int) ≤ ch := by omega
        have h12c : 12 ≤ ch := by omega
        clear HAP HAH h64 h12
        go_enter Try.func6, Try.ntmps6
        go_wp2_with fail
        refine (HB1.out _ HTA.out).out.mono ?_
        rintro e w1 ⟨sa, sc, vo1, ha, hc, aa, ac, rfl, rv1, ⟨oa, no, oc, rfl⟩, t1⟩
        have t1A : Touch w1 (w1.alloc (.cells (outA kd1 ⟨p2, st2, a2, b2, c2, d2, o2, fu1⟩ (.slice sa ns1 sc) (.slice oa no oc) (.slice ha nh1 hc) (.slice aa na1 ac) er1) 41)) [] := (Touch.refl w1 []).alloc _
        obtain ⟨y0, y1⟩ := HBX.out _ (t1.trans t1A (by simp))
        have HT1 : Hid _ := HTA.out.trans (t1.trans t1A (by simp)) (by simp)
        have HO1 : Hid (OutB (w1.alloc (.cells (outA kd1 ⟨p2, st2, a2, b2, c2, d2, o2, fu1⟩ (.slice sa ns1 sc) (.slice oa no oc) (.slice ha nh1 hc) (.slice aa na1 ac) er1) 41)) w1.heap.size (outA kd1 ⟨p2, st2, a2, b2, c2, d2, o2, fu1⟩ (.slice sa ns1 sc) (.slice oa no oc) (.slice ha nh1 hc) (.slice aa na1 ac) er1)) := ⟨heap_alloc_new w1 _⟩
        have HV1 : Hid _ := SRow.keep rv1 t1A (by simp)
        clear t1 t1A rv1 x0 x1 HB1
        go_wp2_with fail
        refine (HB2.out _ HT1.out).out.mono ?_
        rintro e w2 ⟨sa2, sc2, vo2, ha2, hc2, aa2, ac2, rfl, rv2, ⟨oa2, no2, oc2, rfl⟩, t2⟩
        have t2A : Touch w2 (w2.alloc (.cells (outA kd1 ⟨p2, st2, a2, b2, c2, d2, o2, fu2⟩ (.slice sa2 ns1 sc2) (.slice oa2 no2 oc2) (.slice ha2 nh1 hc2) (.slice aa2 na1 ac2) er1) 41)) [] := (Touch.refl w2 []).alloc _
        have hO := HO1.out.touch (t2.trans t2A (by simp)) (by simp)
        have hP : OutB (w2.alloc (.cells (outA kd1 ⟨p2, st2, a2, b2, c2, d2, o2, fu2⟩ (.slice sa2 ns1 sc2) (.slice oa2 no2 oc2) (.slice ha2 nh1 hc2) (.slice aa2 na1 ac2) er1) 41)) w2.heap.size (outA kd1 ⟨p2, st2, a2, b2, c2, d2, o2, fu2⟩ (.slice sa2 ns1 sc2) (.slice oa2 no2 oc2) (.slice ha2 nh1 hc2) (.slice aa2 na1 ac2) er1) := ⟨heap_alloc_new w2 _⟩
        have HT2 : Hid _ := HT1.out.trans (t2.trans t2A (by simp)) (by simp)
        have HVA : Hid _ := SRow.keep HV1.out (t2.trans t2A (by simp)) (by simp)
        have HVB : Hid _ := SRow.keep rv2 t2A (by simp)
        have HOA : Hid _ := hO
        have HOB : Hid _ := hP
        have ku0 := hO.cell 0
        have ku1 := hO.cell 1
        have ku2 := hO.cell 2
        have ku3 := hO.cell 3
        have ku4 := hO.cell 4
        have ku5 := hO.cell 5
        have ku6 := hO.cell 6
        have ku7 := hO.cell 7
        have ku8 := hO.cell 8
        have ku9 := hO.cell 9
        have ku10 := hO.cell 10
        simp at ku0 ku1 ku2 ku3 ku4 ku5 ku6 ku7 ku8 ku9 ku10
        clear hO hP t2 t2A rv2 HO1 HV1 HB2 y0 y1
        have her := HERN.out
        have heq := eq4 a2 b2 c2 d2
        go_wp2_with fail
        generalize w1.heap.size = p7 at *
        generalize w2.heap.size = p8 at *
        generalize (w2.alloc _) = W2 at *
        go_loopw [9] (fun i wr => ∃ k : Nat, i = .int .i64 k ∧ k ≤ nh1 ∧ Touch W2 wr []) (fun i _ => nh1 - (intOf i).toNat)
        case atStart => exact ⟨0, rfl, Nat.zero_le _, Touch.refl _ _⟩
        case round =>
          obtain ⟨k, rfl, hk, tr⟩ := hrel
          have OA := HOA.out.touch tr (by simp)
          have OB := HOB.out.touch tr (by simp)
          have U0 := OA.cell 0
          have U8 := OA.cell 8
          have V8 := OB.cell 8
          simp only [outA, List.getElem?_toArray, List.getElem?_cons_zero, List.getElem?_cons_succ] at U0 U8 V8
          have HTR : Hid _ := tr
          clear ku0 ku1 ku2 ku3 ku4 ku5 ku6 ku7 ku8 ku9 ku10 OA OB
          by_cases hlt : k < nh1
          · have h1 : (k : Int) < nh1 := by omega
            have h0 : (0 : Int) ≤ k := by omega
            have hnl := HHL.out
            have hwk : IntKind.i64.wrap ((k : Int) + 1) = (k : Int) + 1 := by rw [IntKind.wrap_i64]; omega
            obtain ⟨g1, q1, rfl, hc1⟩ := vrow_at (SRow.keep HVA.out tr (by simp)) HNH.out.symm (by omega)
            obtain ⟨g2, q2, rfl, hc2'⟩ := vrow_at (SRow.keep HVB.out tr (by simp)) HNH.out.symm (by omega)
            have y1 := hc1 k hlt
            have y2 := hc2' k hlt
            clear hc1 hc2' tr
            generalize H1.getD k 0 = x at *
            go_wp2_with fail
            go_quiet (fail)
            go_wp2
            go_roundw
            case rel => exact ⟨k + 1, by go_num, by omega, HTR.out.drewN _⟩
            case measure => simp [intOf]; omega
          · have h1 : ¬ (k : Int) < nh1 := by omega
            clear tr
            go_wp2
            go_ret
            exact ⟨by simp [hkn], HT2.out.trans HTR.out (by simp)⟩
      · simp only [if_neg h12] at HB1 HB2
        have h12a : ¬ (12 : Int) < m := by omega
        clear HAP HAH h64 h12
        go_enter Try.func6, Try.ntmps6
        go_wp2_with fail
        refine (HB1.out _ HTA.out).out.mono ?_
        rintro e w1 ⟨sa, sc, vo1, ha, hc, aa, ac, rfl, rv1, ⟨oa, no, oc, rfl⟩, t1⟩
        have t1A : Touch w1 (w1.alloc (.cells (outA kd1 ⟨p2, st2, a2, b2, c2, d2, o2, fu1⟩ (.slice sa ns1 sc) (.slice oa no oc) (.slice ha nh1 hc) (.slice aa na1 ac) er1) 41)) [] := (Touch.refl w1 []).alloc _
        obtain ⟨y0, y1⟩ := HBX.out _ (t1.trans t1A (by simp))
        have HT1 : Hid _ := HTA.out.trans (t1.trans t1A (by simp)) (by simp)
        have HO1 : Hid (OutB (w1.alloc (.cells (outA kd1 ⟨p2, st2, a2, b2, c2, d2, o2, fu1⟩ (.slice sa ns1 sc) (.slice oa no oc) (.slice ha nh1 hc) (.slice aa na1 ac) er1) 41)) w1.heap.size (outA kd1 ⟨p2, st2, a2, b2, c2, d2, o2, fu1⟩ (.slice sa ns1 sc) (.slice oa no oc) (.slice ha nh1 hc) (.slice aa na1 ac) er1)) := ⟨heap_alloc_new w1 _⟩
        have HV1 : Hid _ := SRow.keep rv1 t1A (by simp)
        clear t1 t1A rv1 x0 x1 HB1
        go_wp2_with fail
        refine (HB2.out _ HT1.out).out.mono ?_
        rintro e w2 ⟨sa2, sc2, vo2, ha2, hc2, aa2, ac2, rfl, rv2, ⟨oa2, no2, oc2, rfl⟩, t2⟩
        have t2A : Touch w2 (w2.alloc (.cells (outA kd1 ⟨p2, st2, a2, b2, c2, d2, o2, fu2⟩ (.slice sa2 ns1 sc2) (.slice oa2 no2 oc2) (.slice ha2 nh1 hc2) (.slice aa2 na1 ac2) er1) 41)) [] := (Touch.refl w2 []).alloc _
        have hO := HO1.out.touch (t2.trans t2A (by simp)) (by simp)
        have hP : OutB (w2.alloc (.cells (outA kd1 ⟨p2, st2, a2, b2, c2, d2, o2, fu2⟩ (.slice sa2 ns1 sc2) (.slice oa2 no2 oc2) (.slice ha2 nh1 hc2) (.slice aa2 na1 ac2) er1) 41)) w2.heap.size (outA kd1 ⟨p2, st2, a2, b2, c2, d2, o2, fu2⟩ (.slice sa2 ns1 sc2) (.slice oa2 no2 oc2) (.slice ha2 nh1 hc2) (.slice aa2 na1 ac2) er1) := ⟨heap_alloc_new w2 _⟩
        have HT2 : Hid _ := HT1.out.trans (t2.trans t2A (by simp)) (by simp)
        have HVA : Hid _ := SRow.keep HV1.out (t2.trans t2A (by simp)) (by simp)
        have HVB : Hid _ := SRow.keep rv2 t2A (by simp)
        have HOA : Hid _ := hO
        have HOB : Hid _ := hP
        have ku0 := hO.cell 0
        have ku1 := hO.cell 1
        have ku2 := hO.cell 2
        have ku3 := hO.cell 3
        have ku4 := hO.cell 4
        have ku5 := hO.cell 5
        have ku6 := hO.cell 6
        have ku7 := hO.cell 7
        have ku8 := hO.cell 8
        have ku9 := hO.cell 9
        have ku10 := hO.cell 10
        simp at ku0 ku1 ku2 ku3 ku4 ku5 ku6 ku7 ku8 ku9 ku10
        clear hO hP t2 t2A rv2 HO1 HV1 HB2 y0 y1
        have her := HERN.out
        have heq := eq4 a2 b2 c2 d2
        go_wp2_with fail
        generalize w1.heap.size = p7 at *
        generalize w2.heap.size = p8 at *
        generalize (w2.alloc _) = W2 at *
        go_loopw [9] (fun i wr => ∃ k : Nat, i = .int .i64 k ∧ k ≤ nh1 ∧ Touch W2 wr []) (fun i _ => nh1 - (intOf i).toNat)
        case atStart => exact ⟨0, rfl, Nat.zero_le _, Touch.refl _ _⟩
        case round =>
          obtain ⟨k, rfl, hk, tr⟩ := hrel
          have OA := HOA.out.touch tr (by simp)
          have OB := HOB.out.touch tr (by simp)
          have U0 := OA.cell 0
          have U8 := OA.cell 8
          have V8 := OB.cell 8
          simp only [outA, List.getElem?_toArray, List.getElem?_cons_zero, List.getElem?_cons_succ] at U0 U8 V8
          have HTR : Hid _ := tr
          clear ku0 ku1 ku2 ku3 ku4 ku5 ku6 ku7 ku8 ku9 ku10 OA OB
          by_cases hlt : k < nh1
          · have h1 : (k : Int) < nh1 := by omega
            have h0 : (0 : Int) ≤ k := by omega
            have hnl := HHL.out
            have hwk : IntKind.i64.wrap ((k : Int) + 1) = (k : Int) + 1 := by rw [IntKind.wrap_i64]; omega
            obtain ⟨g1, q1, rfl, hc1⟩ := vrow_at (SRow.keep HVA.out tr (by simp)) HNH.out.symm (by omega)
            obtain ⟨g2, q2, rfl, hc2'⟩ := vrow_at (SRow.keep HVB.out tr (by simp)) HNH.out.symm (by omega)
            have y1 := hc1 k hlt
            have y2 := hc2' k hlt
            clear hc1 hc2' tr
            generalize H1.getD k 0 = x at *
            go_wp2_with fail
            go_quiet (fail)
            go_wp2
            go_roundw
            case rel => exact ⟨k + 1, by go_num, by omega, HTR.out.drewN _⟩
            case measure => simp [intOf]; omega
          · have h1 : ¬ (k : Int) < nh1 := by omega
            clear tr
            go_wp2
            go_ret
            exact ⟨by simp [hkn], HT2.out.trans HTR.out (by simp)⟩

end Go.Proofs.Ytkllmffgajganaa
