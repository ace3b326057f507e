/-
  SpecSteps, WALKED.
-/
import Derived.Test.YtlndbligbpfdpaaSsRAll
import Derived.Test.YtlndbligbpfdpaaSnFew
import Derived.Test.YtlndbligbpfdpaaSnState
import Derived.Test.YtlndbligbpfdpaaSpLive
namespace Go.Proofs.Ytlndbligbpfdpaa
set_option linter.unusedVariables false
set_option linter.unusedSimpArgs false
open Go.RowKit
attribute [local go_sem] Oper.semAt_some

/-- The State that Step answers. -/
def endW (r : Int × WD) : WD := if r.1 = 0 then r.2 else zWD
def StpQ (w : World) (r : Int × WD) (e : Ending) (w' : World) : Prop := ∃ xa xc xo xd, e = .returned (.tuple #[stV (endW r) (.slice xa (endW r).st.length xc) (.slice xo (endW r).out.length xd), .int .i64 r.1]) ∧ (VRow w' (.slice xa (endW r).st.length xc) (endW r).st ∧ VRow w' (.slice xo (endW r).out.length xd) (endW r).out) ∧ Touch w w' [] ∧ (∀ g, (Value.slice xa (endW r).st.length xc).ownBlock = some g → w.heap.size ≤ g) ∧ (∀ g, (Value.slice xo (endW r).out.length xd).ownBlock = some g → w.heap.size ≤ g)
theorem StpP.q {w : World} {r : Int × WD} {e : Ending} {w' : World} (h : StpP w r e w') : StpQ w r e w' := by
  rcases h with ⟨h0, sa, sc, oa, oc, h1, h2, h3, h4, h5, h6⟩ | ⟨h0, h1, h2⟩
  · refine ⟨sa, sc, oa, oc, ?_, ?_, h4, ?_⟩
    · rw [h1]; unfold endW; rw [if_pos h0, h0]
    · unfold endW; rw [if_pos h0]; exact ⟨h2, h3⟩
    · unfold endW; rw [if_pos h0]; exact ⟨h5, h6⟩
  · refine ⟨none, 0, none, 0, ?_, ?_, h2, ⟨fun g hg => (by simp [Value.ownBlock] at hg), fun g hg => (by simp [Value.ownBlock] at hg)⟩⟩
    · rw [h1]; unfold endW; rw [if_neg h0]; rfl
    · unfold endW; rw [if_neg h0]; exact ⟨⟨none, 0, rfl, fun q => absurd rfl q⟩, ⟨none, 0, rfl, fun q => absurd rfl q⟩⟩
theorem pushW_len (D : WD) (i : InsD) (pp : List Int) : (pushW D i pp).length ≤ 2 := by
  unfold pushW
  repeat (first | (split; simp) | simp)
theorem setL_lens (D : WD) (a x : Int) : (D.setL a x).st = D.st ∧ (D.setL a x).out = D.out := ⟨WD.setL_st _ _ _, WD.setL_out _ _ _⟩
theorem doW_len (np : Nat) (D : WD) (i : InsD) : (doW np D i).2.st.length ≤ D.st.length + 2 ∧ (doW np D i).2.out.length ≤ D.out.length + 1 := by
  have hp := pushW_len D i (D.st.drop (D.st.length - (popV i.op).toNat))
  have h1 := setL_lens D i.arg (D.st.getD (D.st.length - 1) 0)
  unfold doW
  repeat' split
  all_goals (simp only [List.length_append, List.length_take, List.length_cons, List.length_nil, h1.1, h1.2]; omega)
theorem step_len (l : List InsD) (D : WD) (h1 : D.st.length ≤ 900) (h2 : D.out.length ≤ 900) : (stepW l D).2.st.length ≤ 1000 ∧ (stepW l D).2.out.length ≤ 1000 := by
  have h := doW_len l.length D (l.getD D.pc.toNat ⟨0, 0, 0⟩)
  unfold stepW
  repeat' split
  all_goals (try simp only); omega
def SsP1 (Q : World) (b : Nat) (r : Int × WD) (D : WD) (l : List InsD) (ap sa oa : Option Addr) (N NS NO cp sc oc : Nat) : Exit → Act → World → Prop
  | .normal, a, W => ∃ p xa xc xo xd, a = { tmps := #[.slice ap N cp, stV D (.slice sa NS sc) (.slice oa NO oc), undef, .pointer (some ⟨b, 0, none⟩), .bool false, .pointer (some ⟨p, 0, none⟩), .int .i64 r.1, undef, undef, .tuple #[stV (endW r) (.slice xa (endW r).st.length xc) (.slice xo (endW r).out.length xd), .int .i64 r.1], .slice ap N cp, .slice ap l.length cp, stV D (.slice sa NS sc) (.slice oa NO oc), stV D (.slice sa D.st.length sc) (.slice oa D.out.length oc), .tuple #[stV (endW r) (.slice xa (endW r).st.length xc) (.slice xo (endW r).out.length xd), .int .i64 r.1], stV (endW r) (.slice xa (endW r).st.length xc) (.slice xo (endW r).out.length xd), .int .i64 r.1, undef, undef, undef, undef, undef, undef, undef, undef, undef, undef, undef, undef, undef, undef, undef, undef, undef, undef, undef], defers := [] } ∧ StB W p (endW r) (.slice xa (endW r).st.length xc) (.slice xo (endW r).out.length xd) ∧ (VRow W (.slice xa (endW r).st.length xc) (endW r).st ∧ VRow W (.slice xo (endW r).out.length xd) (endW r).out) ∧ Touch Q W [] ∧ Q.heap.size ≤ p
  | _, _, _ => False
def SsP2 (Q : World) (b p : Nat) (xa : Option Addr) (xc : Nat) (xo : Option Addr) (xd : Nat) (r : Int × WD) (D : WD) (l : List InsD) (ap sa oa : Option Addr) (N NS NO cp sc oc : Nat) : Exit → Act → World → Prop
  | .normal, a, W => ∃ p2 ya yc yo yd, a = { tmps := #[.slice ap N cp, stV D (.slice sa NS sc) (.slice oa NO oc), undef, .pointer (some ⟨b, 0, none⟩), .bool false, .pointer (some ⟨p, 0, none⟩), .int .i64 r.1, .pointer (some ⟨p2, 0, none⟩), .int .i64 r.1, .tuple #[stV (endW r) (.slice xa (endW r).st.length xc) (.slice xo (endW r).out.length xd), .int .i64 r.1], .slice ap N cp, .slice ap l.length cp, stV D (.slice sa NS sc) (.slice oa NO oc), stV D (.slice sa D.st.length sc) (.slice oa D.out.length oc), .tuple #[stV (endW r) (.slice xa (endW r).st.length xc) (.slice xo (endW r).out.length xd), .int .i64 r.1], stV (endW r) (.slice xa (endW r).st.length xc) (.slice xo (endW r).out.length xd), .int .i64 r.1, .tuple #[stV (endW r) (.slice ya (endW r).st.length yc) (.slice yo (endW r).out.length yd), .int .i64 r.1], .slice ap N cp, .slice ap l.length cp, stV D (.slice sa NS sc) (.slice oa NO oc), stV D (.slice sa D.st.length sc) (.slice oa D.out.length oc), .tuple #[stV (endW r) (.slice ya (endW r).st.length yc) (.slice yo (endW r).out.length yd), .int .i64 r.1], stV (endW r) (.slice ya (endW r).st.length yc) (.slice yo (endW r).out.length yd), .int .i64 r.1, undef, undef, undef, undef, undef, undef, undef, undef, undef, undef, undef], defers := [] } ∧ StB W p2 (endW r) (.slice ya (endW r).st.length yc) (.slice yo (endW r).out.length yd) ∧ (VRow W (.slice ya (endW r).st.length yc) (endW r).st ∧ VRow W (.slice yo (endW r).out.length yd) (endW r).out) ∧ Touch Q W [] ∧ Q.heap.size ≤ p2
  | _, _, _ => False

set_option maxRecDepth 100000 in
set_option maxHeartbeats 8000000 in
theorem specsteps_cut {w : World} {ap sa oa : Option Addr} {N NS NO cp sc oc : Nat} {l : List InsD} {D : WD} (hf0 : D.fuel = 0) (h900 : D.st.length ≤ 900 ∧ D.out.length ≤ 900)
    (fl : ∀ W, Calls Try.prog 9 #[.slice ap N cp] W fun e w' => e = .returned (.slice ap l.length cp) ∧ w' = W)
    (fs : ∀ W, Calls Try.prog 10 #[stV D (.slice sa NS sc) (.slice oa NO oc)] W fun e w' => e = .returned (stV D (.slice sa D.st.length sc) (.slice oa D.out.length oc)) ∧ Touch W w' [])
    (h : StIn w sa oa ap sc oc cp l D) :
    Calls Try.prog 3 #[.slice ap N cp, stV D (.slice sa NS sc) (.slice oa NO oc)] w fun e w' => e = .returned (.bool true) ∧ Touch w w' [] := by
  have hD0 : { D with fuel := 0 } = D := by cases D; simp only at hf0; subst hf0; rfl
  have hB0 : StB (w.alloc (.cells #[.int .i64 D.pc, .slice sa NS sc, .int .u64 D.l0, .int .u64 D.l1, .int .u64 D.l2, .int .u64 D.l3, .slice oa NO oc] 28)) w.heap.size D (.slice sa NS sc) (.slice oa NO oc) := ⟨heap_alloc_new w _⟩
  have tQ : Touch w (w.alloc (.cells #[.int .i64 D.pc, .slice sa NS sc, .int .u64 D.l0, .int .u64 D.l1, .int .u64 D.l2, .int .u64 D.l3, .slice oa NO oc] 28)) [] := (Touch.refl w []).alloc _
  have HF : Hid (∀ W, HidC Try.prog 9 #[.slice ap N cp] W fun e w' => e = .returned (.slice ap l.length cp) ∧ W = w') := fun W => ⟨(fl W).mono fun e w' q => ⟨q.1, q.2.symm⟩⟩
  have HS : Hid (∀ W, HidC _ _ _ _ _) := fun W => ⟨fs W⟩
  obtain ⟨r, hr⟩ : ∃ r, r = stepW l D := ⟨_, rfl⟩
  have HP1 : Hid (∀ W, Touch w W [] → HidC Try.prog 8 #[.slice ap l.length cp, stV D (.slice sa D.st.length sc) (.slice oa D.out.length oc)] W (StpQ W r)) := fun W t => ⟨by
    have q := sstep_any (D := D) (SRow.keep h.hs t (by simp)) (SRow.keep h.ho t (by simp)) (SRow.keep h.hl t (by simp)) h.hll h.hsl h.hol h.hsw
    rw [hD0, ← hr] at q
    exact q.mono fun e w' => StpP.q⟩
  have HP2 : Hid (∀ W, Touch w W [] → HidC Try.prog 11 #[.slice ap l.length cp, stV D (.slice sa D.st.length sc) (.slice oa D.out.length oc)] W (StpQ W r)) := fun W t => ⟨by
    have q := rstep_any (D := D) ⟨SRow.keep h.hs t (by simp), SRow.keep h.ho t (by simp), SRow.keep h.hl t (by simp), h.hll, h.hsl, h.hol, h.hwf, h.hsw⟩
    rw [← hr] at q
    exact q.mono fun e w' => StpP.q⟩
  have HEL : Hid ((endW r).st.length ≤ 1000 ∧ (endW r).out.length ≤ 1000) := by
    have h1 := step_len l D h900.1 h900.2
    rw [← hr] at h1
    unfold endW
    split
    · exact h1
    · exact ⟨by simp, by simp⟩
  clear hD0 hf0 fl fs h hr h900
  obtain ⟨x0, x1, x2, x3, x4, x5, x6⟩ := hB0.cells
  have HB0 : Hid _ := hB0
  have HTQ : Hid _ := tQ
  clear hB0 tQ
  go_enter Try.func3, Try.ntmps3
  go_wp2_with fail
  generalize hQ : w.alloc (.cells #[.int .i64 D.pc, .slice sa NS sc, .int .u64 D.l0, .int .u64 D.l1, .int .u64 D.l2, .int .u64 D.l3, .slice oa NO oc] 28) = Q at *
  clear hQ
  generalize w.heap.size = b at *
  refine Code.wp_mono (Q := SsP1 Q b r D l ap sa oa N NS NO cp sc oc) ?_ ?_
  rotate_right
  · have A0 : Hid (Touch Q Q.drew []) := (Touch.refl Q []).drew
    refine wp_region_held_drew (S := fun V => Touch Q V []) (by kernel_rfl) A0.out (fun hHeld => ?_)
    clear x0 x1 x2 x3 x4 x5 x6
    generalize Q.drew = W0 at *
    refine wpAnyH_take (i := 0) (v := (.slice ap N cp)) rfl (by kernel_rfl) (by kernel_rfl) (by kernel_rfl) (fun _ _ _ h => h) (Or.inl ⟨by rfl, ?_⟩) hHeld ?_
    · intro w' hSw
      go_simp
    try simp only [Act.put, List.getElem_toArray, List.getElem_cons_succ, List.getElem_cons_zero, List.setIfInBounds_toArray, List.set_cons_zero, List.set_cons_succ]
    refine wpAnyH_take (i := 2) (v := (stV D (.slice sa NS sc) (.slice oa NO oc))) rfl (by kernel_rfl) (by kernel_rfl) (by kernel_rfl) (fun _ _ _ h => h) (Or.inl ⟨by rfl, ?_⟩) hHeld ?_
    · intro w' hSw
      obtain ⟨x0, x1, x2, x3, x4, x5, x6⟩ := (HB0.out.touch hSw (by simp)).cells; go_simp
    try simp only [Act.put, List.getElem_toArray, List.getElem_cons_succ, List.getElem_cons_zero, List.setIfInBounds_toArray, List.set_cons_zero, List.set_cons_succ]
    clear hHeld
    refine wpAnyH_ready (rs := [1, 8]) (by kernel_rfl) (by simp) (AllReadyH.cons rfl (fun K hK => ?_) (AllReadyH.cons rfl (fun K hK => ?_) AllReadyH.nil))
    · rw [if_pos (by rfl)]
      go_simp
      refine (HF.out _).out.mono ?_
      rintro e wf ⟨rfl, rfl⟩
      go_simp
      refine hK.out _ _ A0.out (fun hHeld => ?_)
      clear hK
      try simp only [Act.put, List.getElem_toArray, List.getElem_cons_succ, List.getElem_cons_zero, List.setIfInBounds_toArray, List.set_cons_zero, List.set_cons_succ]
      clear hHeld
      refine wpAnyH_ready (rs := [3, 8]) (by kernel_rfl) (by simp) (AllReadyH.cons rfl (fun K hK => ?_) (AllReadyH.cons rfl (fun K hK => ?_) AllReadyH.nil))
      · rw [if_pos (by rfl)]
        go_simp
        refine (HS.out _).out.mono ?_
        rintro e W2 ⟨rfl, tn⟩
        go_simp
        have T2 : Hid (Touch Q W2 []) := A0.out.trans tn (by simp)
        clear tn
        refine hK.out _ _ T2.out (fun hHeld => ?_)
        clear hK
        try simp only [Act.put, List.getElem_toArray, List.getElem_cons_succ, List.getElem_cons_zero, List.setIfInBounds_toArray, List.set_cons_zero, List.set_cons_succ]
        clear hHeld
        refine wpAnyH_ready (rs := [4, 8]) (by kernel_rfl) (by simp) (AllReadyH.cons rfl (fun K hK => ?_) (AllReadyH.cons rfl (fun K hK => ?_) AllReadyH.nil))
        · rw [if_pos (by rfl)]
          go_simp
          refine (HP1.out _ (HTQ.out.trans T2.out (by simp))).out.mono ?_
          rintro e W3 ⟨xa, xc, xo, xd, rfl, ⟨r1, r2⟩, tn, k1, k2⟩
          go_simp
          have T3 : Hid (Touch Q W3 []) := T2.out.trans tn (by simp)
          have RA : Hid (∀ V y, Touch W3 V [y] → (W3.heap.size ≤ y ∨ y < W2.heap.size) → VRow V (.slice xa (endW r).st.length xc) (endW r).st) := fun V y t hy => SRow.keepB r1 t (fun hl g hg hs => by have h1 := SRow.block r1 hl g hg; have h2 := k1 g hg; simp at hs; omega)
          have RB : Hid (∀ V y, Touch W3 V [y] → (W3.heap.size ≤ y ∨ y < W2.heap.size) → VRow V (.slice xo (endW r).out.length xd) (endW r).out) := fun V y t hy => SRow.keepB r2 t (fun hl g hg hs => by have h1 := SRow.block r2 hl g hg; have h2 := k2 g hg; simp at hs; omega)
          have HW4 : Hid (∀ y, W3.heap.size ≤ y → Hid (W3.heap.size ≤ y ∨ y < W2.heap.size)) := fun y hy => .inl hy
          clear tn
          refine hK.out _ _ T3.out (fun hHeld => ?_)
          clear hK
          try simp only [Act.put, List.getElem_toArray, List.getElem_cons_succ, List.getElem_cons_zero, List.setIfInBounds_toArray, List.set_cons_zero, List.set_cons_succ]
          refine wpAnyH_take (i := 5) (v := (.tuple #[stV (endW r) (.slice xa (endW r).st.length xc) (.slice xo (endW r).out.length xd), .int .i64 r.1])) rfl (by kernel_rfl) (by kernel_rfl) (by kernel_rfl) (fun _ _ _ h => h) (Or.inl ⟨by rfl, ?_⟩) hHeld ?_
          · intro w' hSw
            go_simp
          try simp only [Act.put, List.getElem_toArray, List.getElem_cons_succ, List.getElem_cons_zero, List.setIfInBounds_toArray, List.set_cons_zero, List.set_cons_succ]
          refine wpAnyH_take (i := 6) (v := (stV (endW r) (.slice xa (endW r).st.length xc) (.slice xo (endW r).out.length xd))) rfl (by kernel_rfl) (by kernel_rfl) (by kernel_rfl) (fun _ _ _ h => h) (Or.inl ⟨by rfl, ?_⟩) hHeld ?_
          · intro w' hSw
            go_simp
          try simp only [Act.put, List.getElem_toArray, List.getElem_cons_succ, List.getElem_cons_zero, List.setIfInBounds_toArray, List.set_cons_zero, List.set_cons_succ]
          refine wpAnyH_take (i := 7) (v := (.int .i64 r.1)) rfl (by kernel_rfl) (by kernel_rfl) (by kernel_rfl) (fun _ _ _ h => h) (Or.inl ⟨by rfl, ?_⟩) hHeld ?_
          · intro w' hSw
            go_simp
          try simp only [Act.put, List.getElem_toArray, List.getElem_cons_succ, List.getElem_cons_zero, List.setIfInBounds_toArray, List.set_cons_zero, List.set_cons_succ]
          clear hHeld
          refine wpAnyH_ready (rs := [8]) (by kernel_rfl) (by simp) (AllReadyH.cons rfl (fun K hK => ?_) AllReadyH.nil)
          rw [if_pos (by rfl)]
          go_simp
          have HZ4 : Hid (StB (W3.alloc (.cells #[.int .i64 0, .slice none 0 0, .int .u64 0, .int .u64 0, .int .u64 0, .int .u64 0, .slice none 0 0] 28)) W3.heap.size zWD (.slice none 0 0) (.slice none 0 0)) := ⟨heap_alloc_new W3 _⟩
          have T4 : Hid (Touch Q (W3.alloc (.cells #[.int .i64 0, .slice none 0 0, .int .u64 0, .int .u64 0, .int .u64 0, .int .u64 0, .slice none 0 0] 28)) []) := T3.out.alloc _
          have HPL : Hid (Q.heap.size ≤ W3.heap.size) := T3.out.size
          have HPB : Hid (W3.heap.size < (W3.alloc (.cells #[.int .i64 0, .slice none 0 0, .int .u64 0, .int .u64 0, .int .u64 0, .int .u64 0, .slice none 0 0] 28)).heap.size) := by show _ < _; simp
          have HPT : Hid (Touch W3 (W3.alloc (.cells #[.int .i64 0, .slice none 0 0, .int .u64 0, .int .u64 0, .int .u64 0, .int .u64 0, .slice none 0 0] 28)) []) := (Touch.refl W3 []).alloc _
          have HWP := HW4.out W3.heap.size (Nat.le_refl _)
          refine hK.out _ _ T4.out (fun hHeld => ?_)
          generalize W3.alloc (.cells #[.int .i64 0, .slice none 0 0, .int .u64 0, .int .u64 0, .int .u64 0, .int .u64 0, .slice none 0 0] 28) = W4 at *
          clear hK
          try simp only [Act.put, List.getElem_toArray, List.getElem_cons_succ, List.getElem_cons_zero, List.setIfInBounds_toArray, List.set_cons_zero, List.set_cons_succ]
          clear hHeld
          refine wpAnyH_ready (rs := [9]) (by kernel_rfl) (by simp) (AllReadyH.cons rfl (fun K hK => ?_) AllReadyH.nil)
          rw [if_pos (by rfl)]
          refine wp_store_mid 28 _ _ rfl W3.heap.size 0 (stA (endW r) (.slice xa (endW r).st.length xc) (.slice xo (endW r).out.length xd)) ?_ ?_ ?_ ?_ ?_ ?_
          · rfl
          · rfl
          · exact st_there HZ4.out
          · exact Try.size_state
          · exact st_one _ _ _ _ _ _ _
          obtain ⟨g1, g2⟩ := st_sets HZ4.out (endW r) (.slice xa (endW r).st.length xc) (.slice xo (endW r).out.length xd) _ rfl
          have hpb : Q.heap.size ≤ W3.heap.size := HPL.out
          have TE : Hid (Touch Q _ []) := T4.out.trans g2 (fun y hy => .inr (by simp at hy; rw [hy]; exact hpb))
          have G1 : Hid _ := g1
          have RR : Hid (VRow (W4.setCells W3.heap.size 0 (stA (endW r) (.slice xa (endW r).st.length xc) (.slice xo (endW r).out.length xd)).toList) (.slice xa (endW r).st.length xc) (endW r).st ∧ VRow (W4.setCells W3.heap.size 0 (stA (endW r) (.slice xa (endW r).st.length xc) (.slice xo (endW r).out.length xd)).toList) (.slice xo (endW r).out.length xd) (endW r).out) := ⟨RA.out _ _ ((HPT.out.mono (by simp)).trans g2 (fun y hy => .inl hy)) HWP.out, RB.out _ _ ((HPT.out.mono (by simp)).trans g2 (fun y hy => .inl hy)) HWP.out⟩
          clear g1 g2
          generalize W4.setCells W3.heap.size 0 _ = W9 at *
          refine hK.out _ _ TE.out (fun hHeld => ?_)
          clear hK
          try simp only [Act.put, List.getElem_toArray, List.getElem_cons_succ, List.getElem_cons_zero, List.setIfInBounds_toArray, List.set_cons_zero, List.set_cons_succ]
          refine wpAnyH_take (i := 10) (v := (.int .i64 r.1)) rfl (by kernel_rfl) (by kernel_rfl) (by kernel_rfl) (fun _ _ _ h => h) (Or.inl ⟨by rfl, ?_⟩) hHeld ?_
          · intro w' hSw
            go_simp
          try simp only [Act.put, List.getElem_toArray, List.getElem_cons_succ, List.getElem_cons_zero, List.setIfInBounds_toArray, List.set_cons_zero, List.set_cons_succ]
          clear hHeld
          refine wpAnyH_done (by kernel_rfl) ?_ _
          exact ⟨W3.heap.size, xa, xc, xo, xd, rfl, G1.out, RR.out, TE.out, hpb⟩
        · rw [if_pos (by rfl)]
          go_simp
          have HZ5 : Hid (StB (W2.alloc (.cells #[.int .i64 0, .slice none 0 0, .int .u64 0, .int .u64 0, .int .u64 0, .int .u64 0, .slice none 0 0] 28)) W2.heap.size zWD (.slice none 0 0) (.slice none 0 0)) := ⟨heap_alloc_new W2 _⟩
          have T5 : Hid (Touch Q (W2.alloc (.cells #[.int .i64 0, .slice none 0 0, .int .u64 0, .int .u64 0, .int .u64 0, .int .u64 0, .slice none 0 0] 28)) []) := T2.out.alloc _
          have HPL : Hid (Q.heap.size ≤ W2.heap.size) := T2.out.size
          have HPB : Hid (W2.heap.size < (W2.alloc (.cells #[.int .i64 0, .slice none 0 0, .int .u64 0, .int .u64 0, .int .u64 0, .int .u64 0, .slice none 0 0] 28)).heap.size) := by show _ < _; simp
          refine hK.out _ _ T5.out (fun hHeld => ?_)
          generalize W2.alloc (.cells #[.int .i64 0, .slice none 0 0, .int .u64 0, .int .u64 0, .int .u64 0, .int .u64 0, .slice none 0 0] 28) = W5 at *
          clear hK
          try simp only [Act.put, List.getElem_toArray, List.getElem_cons_succ, List.getElem_cons_zero, List.setIfInBounds_toArray, List.set_cons_zero, List.set_cons_succ]
          clear hHeld
          refine wpAnyH_ready (rs := [4]) (by kernel_rfl) (by simp) (AllReadyH.cons rfl (fun K hK => ?_) AllReadyH.nil)
          rw [if_pos (by rfl)]
          go_simp
          refine (HP1.out _ (HTQ.out.trans T5.out (by simp))).out.mono ?_
          rintro e W6 ⟨xa, xc, xo, xd, rfl, ⟨r1, r2⟩, tn, k1, k2⟩
          go_simp
          have T6 : Hid (Touch Q W6 []) := T5.out.trans tn (by simp)
          have RA : Hid (∀ V y, Touch W6 V [y] → (W6.heap.size ≤ y ∨ y < W5.heap.size) → VRow V (.slice xa (endW r).st.length xc) (endW r).st) := fun V y t hy => SRow.keepB r1 t (fun hl g hg hs => by have h1 := SRow.block r1 hl g hg; have h2 := k1 g hg; simp at hs; omega)
          have RB : Hid (∀ V y, Touch W6 V [y] → (W6.heap.size ≤ y ∨ y < W5.heap.size) → VRow V (.slice xo (endW r).out.length xd) (endW r).out) := fun V y t hy => SRow.keepB r2 t (fun hl g hg hs => by have h1 := SRow.block r2 hl g hg; have h2 := k2 g hg; simp at hs; omega)
          have HZ6 : Hid _ := HZ5.out.touch tn (by simp)
          have HPT : Hid (Touch W6 W6 []) := Touch.refl _ _
          have HWP : Hid (W6.heap.size ≤ W2.heap.size ∨ W2.heap.size < W5.heap.size) := .inr HPB.out
          clear tn
          refine hK.out _ _ T6.out (fun hHeld => ?_)
          clear hK
          try simp only [Act.put, List.getElem_toArray, List.getElem_cons_succ, List.getElem_cons_zero, List.setIfInBounds_toArray, List.set_cons_zero, List.set_cons_succ]
          refine wpAnyH_take (i := 5) (v := (.tuple #[stV (endW r) (.slice xa (endW r).st.length xc) (.slice xo (endW r).out.length xd), .int .i64 r.1])) rfl (by kernel_rfl) (by kernel_rfl) (by kernel_rfl) (fun _ _ _ h => h) (Or.inl ⟨by rfl, ?_⟩) hHeld ?_
          · intro w' hSw
            go_simp
          try simp only [Act.put, List.getElem_toArray, List.getElem_cons_succ, List.getElem_cons_zero, List.setIfInBounds_toArray, List.set_cons_zero, List.set_cons_succ]
          refine wpAnyH_take (i := 6) (v := (stV (endW r) (.slice xa (endW r).st.length xc) (.slice xo (endW r).out.length xd))) rfl (by kernel_rfl) (by kernel_rfl) (by kernel_rfl) (fun _ _ _ h => h) (Or.inl ⟨by rfl, ?_⟩) hHeld ?_
          · intro w' hSw
            go_simp
          try simp only [Act.put, List.getElem_toArray, List.getElem_cons_succ, List.getElem_cons_zero, List.setIfInBounds_toArray, List.set_cons_zero, List.set_cons_succ]
          refine wpAnyH_take (i := 7) (v := (.int .i64 r.1)) rfl (by kernel_rfl) (by kernel_rfl) (by kernel_rfl) (fun _ _ _ h => h) (Or.inl ⟨by rfl, ?_⟩) hHeld ?_
          · intro w' hSw
            go_simp
          try simp only [Act.put, List.getElem_toArray, List.getElem_cons_succ, List.getElem_cons_zero, List.setIfInBounds_toArray, List.set_cons_zero, List.set_cons_succ]
          clear hHeld
          refine wpAnyH_ready (rs := [9]) (by kernel_rfl) (by simp) (AllReadyH.cons rfl (fun K hK => ?_) AllReadyH.nil)
          rw [if_pos (by rfl)]
          refine wp_store_mid 28 _ _ rfl W2.heap.size 0 (stA (endW r) (.slice xa (endW r).st.length xc) (.slice xo (endW r).out.length xd)) ?_ ?_ ?_ ?_ ?_ ?_
          · rfl
          · rfl
          · exact st_there HZ6.out
          · exact Try.size_state
          · exact st_one _ _ _ _ _ _ _
          obtain ⟨g1, g2⟩ := st_sets HZ6.out (endW r) (.slice xa (endW r).st.length xc) (.slice xo (endW r).out.length xd) _ rfl
          have hpb : Q.heap.size ≤ W2.heap.size := HPL.out
          have TE : Hid (Touch Q _ []) := T6.out.trans g2 (fun y hy => .inr (by simp at hy; rw [hy]; exact hpb))
          have G1 : Hid _ := g1
          have RR : Hid (VRow (W6.setCells W2.heap.size 0 (stA (endW r) (.slice xa (endW r).st.length xc) (.slice xo (endW r).out.length xd)).toList) (.slice xa (endW r).st.length xc) (endW r).st ∧ VRow (W6.setCells W2.heap.size 0 (stA (endW r) (.slice xa (endW r).st.length xc) (.slice xo (endW r).out.length xd)).toList) (.slice xo (endW r).out.length xd) (endW r).out) := ⟨RA.out _ _ ((HPT.out.mono (by simp)).trans g2 (fun y hy => .inl hy)) HWP.out, RB.out _ _ ((HPT.out.mono (by simp)).trans g2 (fun y hy => .inl hy)) HWP.out⟩
          clear g1 g2
          generalize W6.setCells W2.heap.size 0 _ = W9 at *
          refine hK.out _ _ TE.out (fun hHeld => ?_)
          clear hK
          try simp only [Act.put, List.getElem_toArray, List.getElem_cons_succ, List.getElem_cons_zero, List.setIfInBounds_toArray, List.set_cons_zero, List.set_cons_succ]
          refine wpAnyH_take (i := 10) (v := (.int .i64 r.1)) rfl (by kernel_rfl) (by kernel_rfl) (by kernel_rfl) (fun _ _ _ h => h) (Or.inl ⟨by rfl, ?_⟩) hHeld ?_
          · intro w' hSw
            go_simp
          try simp only [Act.put, List.getElem_toArray, List.getElem_cons_succ, List.getElem_cons_zero, List.setIfInBounds_toArray, List.set_cons_zero, List.set_cons_succ]
          clear hHeld
          refine wpAnyH_done (by kernel_rfl) ?_ _
          exact ⟨W2.heap.size, xa, xc, xo, xd, rfl, G1.out, RR.out, TE.out, hpb⟩
      · rw [if_pos (by rfl)]
        go_simp
        have HZ7 : Hid (StB (W0.alloc (.cells #[.int .i64 0, .slice none 0 0, .int .u64 0, .int .u64 0, .int .u64 0, .int .u64 0, .slice none 0 0] 28)) W0.heap.size zWD (.slice none 0 0) (.slice none 0 0)) := ⟨heap_alloc_new W0 _⟩
        have T7 : Hid (Touch Q (W0.alloc (.cells #[.int .i64 0, .slice none 0 0, .int .u64 0, .int .u64 0, .int .u64 0, .int .u64 0, .slice none 0 0] 28)) []) := A0.out.alloc _
        have HPL : Hid (Q.heap.size ≤ W0.heap.size) := A0.out.size
        have HPB : Hid (W0.heap.size < (W0.alloc (.cells #[.int .i64 0, .slice none 0 0, .int .u64 0, .int .u64 0, .int .u64 0, .int .u64 0, .slice none 0 0] 28)).heap.size) := by show _ < _; simp
        refine hK.out _ _ T7.out (fun hHeld => ?_)
        generalize W0.alloc (.cells #[.int .i64 0, .slice none 0 0, .int .u64 0, .int .u64 0, .int .u64 0, .int .u64 0, .slice none 0 0] 28) = W7 at *
        clear hK
        try simp only [Act.put, List.getElem_toArray, List.getElem_cons_succ, List.getElem_cons_zero, List.setIfInBounds_toArray, List.set_cons_zero, List.set_cons_succ]
        clear hHeld
        refine wpAnyH_ready (rs := [3]) (by kernel_rfl) (by simp) (AllReadyH.cons rfl (fun K hK => ?_) AllReadyH.nil)
        rw [if_pos (by rfl)]
        go_simp
        refine (HS.out _).out.mono ?_
        rintro e W8 ⟨rfl, tn⟩
        go_simp
        have T8 : Hid (Touch Q W8 []) := T7.out.trans tn (by simp)
        have HZ8 : Hid _ := HZ7.out.touch tn (by simp)
        replace HPB : Hid (W0.heap.size < W8.heap.size) := Nat.lt_of_lt_of_le HPB.out tn.size
        clear tn
        refine hK.out _ _ T8.out (fun hHeld => ?_)
        clear hK
        try simp only [Act.put, List.getElem_toArray, List.getElem_cons_succ, List.getElem_cons_zero, List.setIfInBounds_toArray, List.set_cons_zero, List.set_cons_succ]
        clear hHeld
        refine wpAnyH_ready (rs := [4]) (by kernel_rfl) (by simp) (AllReadyH.cons rfl (fun K hK => ?_) AllReadyH.nil)
        rw [if_pos (by rfl)]
        go_simp
        refine (HP1.out _ (HTQ.out.trans T8.out (by simp))).out.mono ?_
        rintro e W9 ⟨xa, xc, xo, xd, rfl, ⟨r1, r2⟩, tn, k1, k2⟩
        go_simp
        have T9 : Hid (Touch Q W9 []) := T8.out.trans tn (by simp)
        have RA : Hid (∀ V y, Touch W9 V [y] → (W9.heap.size ≤ y ∨ y < W8.heap.size) → VRow V (.slice xa (endW r).st.length xc) (endW r).st) := fun V y t hy => SRow.keepB r1 t (fun hl g hg hs => by have h1 := SRow.block r1 hl g hg; have h2 := k1 g hg; simp at hs; omega)
        have RB : Hid (∀ V y, Touch W9 V [y] → (W9.heap.size ≤ y ∨ y < W8.heap.size) → VRow V (.slice xo (endW r).out.length xd) (endW r).out) := fun V y t hy => SRow.keepB r2 t (fun hl g hg hs => by have h1 := SRow.block r2 hl g hg; have h2 := k2 g hg; simp at hs; omega)
        have HZ9 : Hid _ := HZ8.out.touch tn (by simp)
        have HPT : Hid (Touch W9 W9 []) := Touch.refl _ _
        have HWP : Hid (W9.heap.size ≤ W0.heap.size ∨ W0.heap.size < W8.heap.size) := .inr HPB.out
        clear tn
        refine hK.out _ _ T9.out (fun hHeld => ?_)
        clear hK
        try simp only [Act.put, List.getElem_toArray, List.getElem_cons_succ, List.getElem_cons_zero, List.setIfInBounds_toArray, List.set_cons_zero, List.set_cons_succ]
        refine wpAnyH_take (i := 5) (v := (.tuple #[stV (endW r) (.slice xa (endW r).st.length xc) (.slice xo (endW r).out.length xd), .int .i64 r.1])) rfl (by kernel_rfl) (by kernel_rfl) (by kernel_rfl) (fun _ _ _ h => h) (Or.inl ⟨by rfl, ?_⟩) hHeld ?_
        · intro w' hSw
          go_simp
        try simp only [Act.put, List.getElem_toArray, List.getElem_cons_succ, List.getElem_cons_zero, List.setIfInBounds_toArray, List.set_cons_zero, List.set_cons_succ]
        refine wpAnyH_take (i := 6) (v := (stV (endW r) (.slice xa (endW r).st.length xc) (.slice xo (endW r).out.length xd))) rfl (by kernel_rfl) (by kernel_rfl) (by kernel_rfl) (fun _ _ _ h => h) (Or.inl ⟨by rfl, ?_⟩) hHeld ?_
        · intro w' hSw
          go_simp
        try simp only [Act.put, List.getElem_toArray, List.getElem_cons_succ, List.getElem_cons_zero, List.setIfInBounds_toArray, List.set_cons_zero, List.set_cons_succ]
        refine wpAnyH_take (i := 7) (v := (.int .i64 r.1)) rfl (by kernel_rfl) (by kernel_rfl) (by kernel_rfl) (fun _ _ _ h => h) (Or.inl ⟨by rfl, ?_⟩) hHeld ?_
        · intro w' hSw
          go_simp
        try simp only [Act.put, List.getElem_toArray, List.getElem_cons_succ, List.getElem_cons_zero, List.setIfInBounds_toArray, List.set_cons_zero, List.set_cons_succ]
        clear hHeld
        refine wpAnyH_ready (rs := [9]) (by kernel_rfl) (by simp) (AllReadyH.cons rfl (fun K hK => ?_) AllReadyH.nil)
        rw [if_pos (by rfl)]
        refine wp_store_mid 28 _ _ rfl W0.heap.size 0 (stA (endW r) (.slice xa (endW r).st.length xc) (.slice xo (endW r).out.length xd)) ?_ ?_ ?_ ?_ ?_ ?_
        · rfl
        · rfl
        · exact st_there HZ9.out
        · exact Try.size_state
        · exact st_one _ _ _ _ _ _ _
        obtain ⟨g1, g2⟩ := st_sets HZ9.out (endW r) (.slice xa (endW r).st.length xc) (.slice xo (endW r).out.length xd) _ rfl
        have hpb : Q.heap.size ≤ W0.heap.size := HPL.out
        have TE : Hid (Touch Q _ []) := T9.out.trans g2 (fun y hy => .inr (by simp at hy; rw [hy]; exact hpb))
        have G1 : Hid _ := g1
        have RR : Hid (VRow (W9.setCells W0.heap.size 0 (stA (endW r) (.slice xa (endW r).st.length xc) (.slice xo (endW r).out.length xd)).toList) (.slice xa (endW r).st.length xc) (endW r).st ∧ VRow (W9.setCells W0.heap.size 0 (stA (endW r) (.slice xa (endW r).st.length xc) (.slice xo (endW r).out.length xd)).toList) (.slice xo (endW r).out.length xd) (endW r).out) := ⟨RA.out _ _ ((HPT.out.mono (by simp)).trans g2 (fun y hy => .inl hy)) HWP.out, RB.out _ _ ((HPT.out.mono (by simp)).trans g2 (fun y hy => .inl hy)) HWP.out⟩
        clear g1 g2
        generalize W9.setCells W0.heap.size 0 _ = W9 at *
        refine hK.out _ _ TE.out (fun hHeld => ?_)
        clear hK
        try simp only [Act.put, List.getElem_toArray, List.getElem_cons_succ, List.getElem_cons_zero, List.setIfInBounds_toArray, List.set_cons_zero, List.set_cons_succ]
        refine wpAnyH_take (i := 10) (v := (.int .i64 r.1)) rfl (by kernel_rfl) (by kernel_rfl) (by kernel_rfl) (fun _ _ _ h => h) (Or.inl ⟨by rfl, ?_⟩) hHeld ?_
        · intro w' hSw
          go_simp
        try simp only [Act.put, List.getElem_toArray, List.getElem_cons_succ, List.getElem_cons_zero, List.setIfInBounds_toArray, List.set_cons_zero, List.set_cons_succ]
        clear hHeld
        refine wpAnyH_done (by kernel_rfl) ?_ _
        exact ⟨W0.heap.size, xa, xc, xo, xd, rfl, G1.out, RR.out, TE.out, hpb⟩
    · rw [if_pos (by rfl)]
      go_simp
      have HZ10 : Hid (StB (W0.alloc (.cells #[.int .i64 0, .slice none 0 0, .int .u64 0, .int .u64 0, .int .u64 0, .int .u64 0, .slice none 0 0] 28)) W0.heap.size zWD (.slice none 0 0) (.slice none 0 0)) := ⟨heap_alloc_new W0 _⟩
      have T10 : Hid (Touch Q (W0.alloc (.cells #[.int .i64 0, .slice none 0 0, .int .u64 0, .int .u64 0, .int .u64 0, .int .u64 0, .slice none 0 0] 28)) []) := A0.out.alloc _
      have HPL : Hid (Q.heap.size ≤ W0.heap.size) := A0.out.size
      have HPB : Hid (W0.heap.size < (W0.alloc (.cells #[.int .i64 0, .slice none 0 0, .int .u64 0, .int .u64 0, .int .u64 0, .int .u64 0, .slice none 0 0] 28)).heap.size) := by show _ < _; simp
      refine hK.out _ _ T10.out (fun hHeld => ?_)
      generalize W0.alloc (.cells #[.int .i64 0, .slice none 0 0, .int .u64 0, .int .u64 0, .int .u64 0, .int .u64 0, .slice none 0 0] 28) = W10 at *
      clear hK
      try simp only [Act.put, List.getElem_toArray, List.getElem_cons_succ, List.getElem_cons_zero, List.setIfInBounds_toArray, List.set_cons_zero, List.set_cons_succ]
      clear hHeld
      refine wpAnyH_ready (rs := [1]) (by kernel_rfl) (by simp) (AllReadyH.cons rfl (fun K hK => ?_) AllReadyH.nil)
      rw [if_pos (by rfl)]
      go_simp
      refine (HF.out _).out.mono ?_
      rintro e wf ⟨rfl, rfl⟩
      go_simp
      refine hK.out _ _ T10.out (fun hHeld => ?_)
      clear hK
      try simp only [Act.put, List.getElem_toArray, List.getElem_cons_succ, List.getElem_cons_zero, List.setIfInBounds_toArray, List.set_cons_zero, List.set_cons_succ]
      clear hHeld
      refine wpAnyH_ready (rs := [3]) (by kernel_rfl) (by simp) (AllReadyH.cons rfl (fun K hK => ?_) AllReadyH.nil)
      rw [if_pos (by rfl)]
      go_simp
      refine (HS.out _).out.mono ?_
      rintro e W12 ⟨rfl, tn⟩
      go_simp
      have T12 : Hid (Touch Q W12 []) := T10.out.trans tn (by simp)
      have HZ12 : Hid _ := HZ10.out.touch tn (by simp)
      replace HPB : Hid (W0.heap.size < W12.heap.size) := Nat.lt_of_lt_of_le HPB.out tn.size
      clear tn
      refine hK.out _ _ T12.out (fun hHeld => ?_)
      clear hK
      try simp only [Act.put, List.getElem_toArray, List.getElem_cons_succ, List.getElem_cons_zero, List.setIfInBounds_toArray, List.set_cons_zero, List.set_cons_succ]
      clear hHeld
      refine wpAnyH_ready (rs := [4]) (by kernel_rfl) (by simp) (AllReadyH.cons rfl (fun K hK => ?_) AllReadyH.nil)
      rw [if_pos (by rfl)]
      go_simp
      refine (HP1.out _ (HTQ.out.trans T12.out (by simp))).out.mono ?_
      rintro e W13 ⟨xa, xc, xo, xd, rfl, ⟨r1, r2⟩, tn, k1, k2⟩
      go_simp
      have T13 : Hid (Touch Q W13 []) := T12.out.trans tn (by simp)
      have RA : Hid (∀ V y, Touch W13 V [y] → (W13.heap.size ≤ y ∨ y < W12.heap.size) → VRow V (.slice xa (endW r).st.length xc) (endW r).st) := fun V y t hy => SRow.keepB r1 t (fun hl g hg hs => by have h1 := SRow.block r1 hl g hg; have h2 := k1 g hg; simp at hs; omega)
      have RB : Hid (∀ V y, Touch W13 V [y] → (W13.heap.size ≤ y ∨ y < W12.heap.size) → VRow V (.slice xo (endW r).out.length xd) (endW r).out) := fun V y t hy => SRow.keepB r2 t (fun hl g hg hs => by have h1 := SRow.block r2 hl g hg; have h2 := k2 g hg; simp at hs; omega)
      have HZ13 : Hid _ := HZ12.out.touch tn (by simp)
      have HPT : Hid (Touch W13 W13 []) := Touch.refl _ _
      have HWP : Hid (W13.heap.size ≤ W0.heap.size ∨ W0.heap.size < W12.heap.size) := .inr HPB.out
      clear tn
      refine hK.out _ _ T13.out (fun hHeld => ?_)
      clear hK
      try simp only [Act.put, List.getElem_toArray, List.getElem_cons_succ, List.getElem_cons_zero, List.setIfInBounds_toArray, List.set_cons_zero, List.set_cons_succ]
      refine wpAnyH_take (i := 5) (v := (.tuple #[stV (endW r) (.slice xa (endW r).st.length xc) (.slice xo (endW r).out.length xd), .int .i64 r.1])) rfl (by kernel_rfl) (by kernel_rfl) (by kernel_rfl) (fun _ _ _ h => h) (Or.inl ⟨by rfl, ?_⟩) hHeld ?_
      · intro w' hSw
        go_simp
      try simp only [Act.put, List.getElem_toArray, List.getElem_cons_succ, List.getElem_cons_zero, List.setIfInBounds_toArray, List.set_cons_zero, List.set_cons_succ]
      refine wpAnyH_take (i := 6) (v := (stV (endW r) (.slice xa (endW r).st.length xc) (.slice xo (endW r).out.length xd))) rfl (by kernel_rfl) (by kernel_rfl) (by kernel_rfl) (fun _ _ _ h => h) (Or.inl ⟨by rfl, ?_⟩) hHeld ?_
      · intro w' hSw
        go_simp
      try simp only [Act.put, List.getElem_toArray, List.getElem_cons_succ, List.getElem_cons_zero, List.setIfInBounds_toArray, List.set_cons_zero, List.set_cons_succ]
      refine wpAnyH_take (i := 7) (v := (.int .i64 r.1)) rfl (by kernel_rfl) (by kernel_rfl) (by kernel_rfl) (fun _ _ _ h => h) (Or.inl ⟨by rfl, ?_⟩) hHeld ?_
      · intro w' hSw
        go_simp
      try simp only [Act.put, List.getElem_toArray, List.getElem_cons_succ, List.getElem_cons_zero, List.setIfInBounds_toArray, List.set_cons_zero, List.set_cons_succ]
      clear hHeld
      refine wpAnyH_ready (rs := [9]) (by kernel_rfl) (by simp) (AllReadyH.cons rfl (fun K hK => ?_) AllReadyH.nil)
      rw [if_pos (by rfl)]
      refine wp_store_mid 28 _ _ rfl W0.heap.size 0 (stA (endW r) (.slice xa (endW r).st.length xc) (.slice xo (endW r).out.length xd)) ?_ ?_ ?_ ?_ ?_ ?_
      · rfl
      · rfl
      · exact st_there HZ13.out
      · exact Try.size_state
      · exact st_one _ _ _ _ _ _ _
      obtain ⟨g1, g2⟩ := st_sets HZ13.out (endW r) (.slice xa (endW r).st.length xc) (.slice xo (endW r).out.length xd) _ rfl
      have hpb : Q.heap.size ≤ W0.heap.size := HPL.out
      have TE : Hid (Touch Q _ []) := T13.out.trans g2 (fun y hy => .inr (by simp at hy; rw [hy]; exact hpb))
      have G1 : Hid _ := g1
      have RR : Hid (VRow (W13.setCells W0.heap.size 0 (stA (endW r) (.slice xa (endW r).st.length xc) (.slice xo (endW r).out.length xd)).toList) (.slice xa (endW r).st.length xc) (endW r).st ∧ VRow (W13.setCells W0.heap.size 0 (stA (endW r) (.slice xa (endW r).st.length xc) (.slice xo (endW r).out.length xd)).toList) (.slice xo (endW r).out.length xd) (endW r).out) := ⟨RA.out _ _ ((HPT.out.mono (by simp)).trans g2 (fun y hy => .inl hy)) HWP.out, RB.out _ _ ((HPT.out.mono (by simp)).trans g2 (fun y hy => .inl hy)) HWP.out⟩
      clear g1 g2
      generalize W13.setCells W0.heap.size 0 _ = W9 at *
      refine hK.out _ _ TE.out (fun hHeld => ?_)
      clear hK
      try simp only [Act.put, List.getElem_toArray, List.getElem_cons_succ, List.getElem_cons_zero, List.setIfInBounds_toArray, List.set_cons_zero, List.set_cons_succ]
      refine wpAnyH_take (i := 10) (v := (.int .i64 r.1)) rfl (by kernel_rfl) (by kernel_rfl) (by kernel_rfl) (fun _ _ _ h => h) (Or.inl ⟨by rfl, ?_⟩) hHeld ?_
      · intro w' hSw
        go_simp
      try simp only [Act.put, List.getElem_toArray, List.getElem_cons_succ, List.getElem_cons_zero, List.setIfInBounds_toArray, List.set_cons_zero, List.set_cons_succ]
      clear hHeld
      refine wpAnyH_done (by kernel_rfl) ?_ _
      exact ⟨W0.heap.size, xa, xc, xo, xd, rfl, G1.out, RR.out, TE.out, hpb⟩
  · intro ex act W1 hx
    cases ex with
    | normal => ?_
    | _ => exact hx.elim
    obtain ⟨p, xa, xc, xo, xd, rfl, z1, ⟨z2, z3⟩, z4, z5⟩ := hx
    have HZ1 : Hid _ := z1
    have HR1 : Hid _ := z2
    have HR2 : Hid _ := z3
    have HT1 : Hid _ := z4
    have HPQ : Hid _ := z5
    have HB1 : Hid _ := HB0.out.touch z4 (by simp)
    have HTW : Hid _ := HTQ.out.trans z4 (by simp)
    clear z1 z2 z3 z4 z5 x0 x1 x2 x3 x4 x5 x6
    go_wp2_with fail
    refine Code.wp_mono (Q := SsP2 W1 b p xa xc xo xd r D l ap sa oa N NS NO cp sc oc) ?_ ?_
    rotate_right
    · have A0 : Hid (Touch W1 W1.drew []) := (Touch.refl W1 []).drew
      refine wp_region_held_drew (S := fun V => Touch W1 V []) (by kernel_rfl) A0.out (fun hHeld => ?_)
      generalize W1.drew = W0 at *
      refine wpAnyH_take (i := 0) (v := (.slice ap N cp)) rfl (by kernel_rfl) (by kernel_rfl) (by kernel_rfl) (fun _ _ _ h => h) (Or.inl ⟨by rfl, ?_⟩) hHeld ?_
      · intro w' hSw
        go_simp
      try simp only [Act.put, List.getElem_toArray, List.getElem_cons_succ, List.getElem_cons_zero, List.setIfInBounds_toArray, List.set_cons_zero, List.set_cons_succ]
      refine wpAnyH_take (i := 2) (v := (stV D (.slice sa NS sc) (.slice oa NO oc))) rfl (by kernel_rfl) (by kernel_rfl) (by kernel_rfl) (fun _ _ _ h => h) (Or.inl ⟨by rfl, ?_⟩) hHeld ?_
      · intro w' hSw
        obtain ⟨x0, x1, x2, x3, x4, x5, x6⟩ := (HB1.out.touch hSw (by simp)).cells; go_simp
      try simp only [Act.put, List.getElem_toArray, List.getElem_cons_succ, List.getElem_cons_zero, List.setIfInBounds_toArray, List.set_cons_zero, List.set_cons_succ]
      clear hHeld
      refine wpAnyH_ready (rs := [1, 8]) (by kernel_rfl) (by simp) (AllReadyH.cons rfl (fun K hK => ?_) (AllReadyH.cons rfl (fun K hK => ?_) AllReadyH.nil))
      · rw [if_pos (by rfl)]
        go_simp
        refine (HF.out _).out.mono ?_
        rintro e wf ⟨rfl, rfl⟩
        go_simp
        refine hK.out _ _ A0.out (fun hHeld => ?_)
        clear hK
        try simp only [Act.put, List.getElem_toArray, List.getElem_cons_succ, List.getElem_cons_zero, List.setIfInBounds_toArray, List.set_cons_zero, List.set_cons_succ]
        clear hHeld
        refine wpAnyH_ready (rs := [3, 8]) (by kernel_rfl) (by simp) (AllReadyH.cons rfl (fun K hK => ?_) (AllReadyH.cons rfl (fun K hK => ?_) AllReadyH.nil))
        · rw [if_pos (by rfl)]
          go_simp
          refine (HS.out _).out.mono ?_
          rintro e W15 ⟨rfl, tn⟩
          go_simp
          have T15 : Hid (Touch W1 W15 []) := A0.out.trans tn (by simp)
          clear tn
          refine hK.out _ _ T15.out (fun hHeld => ?_)
          clear hK
          try simp only [Act.put, List.getElem_toArray, List.getElem_cons_succ, List.getElem_cons_zero, List.setIfInBounds_toArray, List.set_cons_zero, List.set_cons_succ]
          clear hHeld
          refine wpAnyH_ready (rs := [4, 8]) (by kernel_rfl) (by simp) (AllReadyH.cons rfl (fun K hK => ?_) (AllReadyH.cons rfl (fun K hK => ?_) AllReadyH.nil))
          · rw [if_pos (by rfl)]
            go_simp
            refine (HP2.out _ (HTW.out.trans T15.out (by simp))).out.mono ?_
            rintro e W16 ⟨ya, yc, yo, yd, rfl, ⟨r1, r2⟩, tn, k1, k2⟩
            go_simp
            have T16 : Hid (Touch W1 W16 []) := T15.out.trans tn (by simp)
            have RA : Hid (∀ V y, Touch W16 V [y] → (W16.heap.size ≤ y ∨ y < W15.heap.size) → VRow V (.slice ya (endW r).st.length yc) (endW r).st) := fun V y t hy => SRow.keepB r1 t (fun hl g hg hs => by have h1 := SRow.block r1 hl g hg; have h2 := k1 g hg; simp at hs; omega)
            have RB : Hid (∀ V y, Touch W16 V [y] → (W16.heap.size ≤ y ∨ y < W15.heap.size) → VRow V (.slice yo (endW r).out.length yd) (endW r).out) := fun V y t hy => SRow.keepB r2 t (fun hl g hg hs => by have h1 := SRow.block r2 hl g hg; have h2 := k2 g hg; simp at hs; omega)
            have HW4 : Hid (∀ y, W16.heap.size ≤ y → Hid (W16.heap.size ≤ y ∨ y < W15.heap.size)) := fun y hy => .inl hy
            clear tn
            refine hK.out _ _ T16.out (fun hHeld => ?_)
            clear hK
            try simp only [Act.put, List.getElem_toArray, List.getElem_cons_succ, List.getElem_cons_zero, List.setIfInBounds_toArray, List.set_cons_zero, List.set_cons_succ]
            refine wpAnyH_take (i := 5) (v := (.tuple #[stV (endW r) (.slice ya (endW r).st.length yc) (.slice yo (endW r).out.length yd), .int .i64 r.1])) rfl (by kernel_rfl) (by kernel_rfl) (by kernel_rfl) (fun _ _ _ h => h) (Or.inl ⟨by rfl, ?_⟩) hHeld ?_
            · intro w' hSw
              go_simp
            try simp only [Act.put, List.getElem_toArray, List.getElem_cons_succ, List.getElem_cons_zero, List.setIfInBounds_toArray, List.set_cons_zero, List.set_cons_succ]
            refine wpAnyH_take (i := 6) (v := (stV (endW r) (.slice ya (endW r).st.length yc) (.slice yo (endW r).out.length yd))) rfl (by kernel_rfl) (by kernel_rfl) (by kernel_rfl) (fun _ _ _ h => h) (Or.inl ⟨by rfl, ?_⟩) hHeld ?_
            · intro w' hSw
              go_simp
            try simp only [Act.put, List.getElem_toArray, List.getElem_cons_succ, List.getElem_cons_zero, List.setIfInBounds_toArray, List.set_cons_zero, List.set_cons_succ]
            refine wpAnyH_take (i := 7) (v := (.int .i64 r.1)) rfl (by kernel_rfl) (by kernel_rfl) (by kernel_rfl) (fun _ _ _ h => h) (Or.inl ⟨by rfl, ?_⟩) hHeld ?_
            · intro w' hSw
              go_simp
            try simp only [Act.put, List.getElem_toArray, List.getElem_cons_succ, List.getElem_cons_zero, List.setIfInBounds_toArray, List.set_cons_zero, List.set_cons_succ]
            clear hHeld
            refine wpAnyH_ready (rs := [8]) (by kernel_rfl) (by simp) (AllReadyH.cons rfl (fun K hK => ?_) AllReadyH.nil)
            rw [if_pos (by rfl)]
            go_simp
            have HZ17 : Hid (StB (W16.alloc (.cells #[.int .i64 0, .slice none 0 0, .int .u64 0, .int .u64 0, .int .u64 0, .int .u64 0, .slice none 0 0] 28)) W16.heap.size zWD (.slice none 0 0) (.slice none 0 0)) := ⟨heap_alloc_new W16 _⟩
            have T17 : Hid (Touch W1 (W16.alloc (.cells #[.int .i64 0, .slice none 0 0, .int .u64 0, .int .u64 0, .int .u64 0, .int .u64 0, .slice none 0 0] 28)) []) := T16.out.alloc _
            have HPL : Hid (W1.heap.size ≤ W16.heap.size) := T16.out.size
            have HPB : Hid (W16.heap.size < (W16.alloc (.cells #[.int .i64 0, .slice none 0 0, .int .u64 0, .int .u64 0, .int .u64 0, .int .u64 0, .slice none 0 0] 28)).heap.size) := by show _ < _; simp
            have HPT : Hid (Touch W16 (W16.alloc (.cells #[.int .i64 0, .slice none 0 0, .int .u64 0, .int .u64 0, .int .u64 0, .int .u64 0, .slice none 0 0] 28)) []) := (Touch.refl W16 []).alloc _
            have HWP := HW4.out W16.heap.size (Nat.le_refl _)
            refine hK.out _ _ T17.out (fun hHeld => ?_)
            generalize W16.alloc (.cells #[.int .i64 0, .slice none 0 0, .int .u64 0, .int .u64 0, .int .u64 0, .int .u64 0, .slice none 0 0] 28) = W17 at *
            clear hK
            try simp only [Act.put, List.getElem_toArray, List.getElem_cons_succ, List.getElem_cons_zero, List.setIfInBounds_toArray, List.set_cons_zero, List.set_cons_succ]
            clear hHeld
            refine wpAnyH_ready (rs := [9]) (by kernel_rfl) (by simp) (AllReadyH.cons rfl (fun K hK => ?_) AllReadyH.nil)
            rw [if_pos (by rfl)]
            refine wp_store_mid 28 _ _ rfl W16.heap.size 0 (stA (endW r) (.slice ya (endW r).st.length yc) (.slice yo (endW r).out.length yd)) ?_ ?_ ?_ ?_ ?_ ?_
            · rfl
            · rfl
            · exact st_there HZ17.out
            · exact Try.size_state
            · exact st_one _ _ _ _ _ _ _
            obtain ⟨g1, g2⟩ := st_sets HZ17.out (endW r) (.slice ya (endW r).st.length yc) (.slice yo (endW r).out.length yd) _ rfl
            have hpb : W1.heap.size ≤ W16.heap.size := HPL.out
            have TE : Hid (Touch W1 _ []) := T17.out.trans g2 (fun y hy => .inr (by simp at hy; rw [hy]; exact hpb))
            have G1 : Hid _ := g1
            have RR : Hid (VRow (W17.setCells W16.heap.size 0 (stA (endW r) (.slice ya (endW r).st.length yc) (.slice yo (endW r).out.length yd)).toList) (.slice ya (endW r).st.length yc) (endW r).st ∧ VRow (W17.setCells W16.heap.size 0 (stA (endW r) (.slice ya (endW r).st.length yc) (.slice yo (endW r).out.length yd)).toList) (.slice yo (endW r).out.length yd) (endW r).out) := ⟨RA.out _ _ ((HPT.out.mono (by simp)).trans g2 (fun y hy => .inl hy)) HWP.out, RB.out _ _ ((HPT.out.mono (by simp)).trans g2 (fun y hy => .inl hy)) HWP.out⟩
            clear g1 g2
            generalize W17.setCells W16.heap.size 0 _ = W9 at *
            refine hK.out _ _ TE.out (fun hHeld => ?_)
            clear hK
            try simp only [Act.put, List.getElem_toArray, List.getElem_cons_succ, List.getElem_cons_zero, List.setIfInBounds_toArray, List.set_cons_zero, List.set_cons_succ]
            refine wpAnyH_take (i := 10) (v := (.int .i64 r.1)) rfl (by kernel_rfl) (by kernel_rfl) (by kernel_rfl) (fun _ _ _ h => h) (Or.inl ⟨by rfl, ?_⟩) hHeld ?_
            · intro w' hSw
              go_simp
            try simp only [Act.put, List.getElem_toArray, List.getElem_cons_succ, List.getElem_cons_zero, List.setIfInBounds_toArray, List.set_cons_zero, List.set_cons_succ]
            clear hHeld
            refine wpAnyH_done (by kernel_rfl) ?_ _
            exact ⟨W16.heap.size, ya, yc, yo, yd, rfl, G1.out, RR.out, TE.out, hpb⟩
          · rw [if_pos (by rfl)]
            go_simp
            have HZ18 : Hid (StB (W15.alloc (.cells #[.int .i64 0, .slice none 0 0, .int .u64 0, .int .u64 0, .int .u64 0, .int .u64 0, .slice none 0 0] 28)) W15.heap.size zWD (.slice none 0 0) (.slice none 0 0)) := ⟨heap_alloc_new W15 _⟩
            have T18 : Hid (Touch W1 (W15.alloc (.cells #[.int .i64 0, .slice none 0 0, .int .u64 0, .int .u64 0, .int .u64 0, .int .u64 0, .slice none 0 0] 28)) []) := T15.out.alloc _
            have HPL : Hid (W1.heap.size ≤ W15.heap.size) := T15.out.size
            have HPB : Hid (W15.heap.size < (W15.alloc (.cells #[.int .i64 0, .slice none 0 0, .int .u64 0, .int .u64 0, .int .u64 0, .int .u64 0, .slice none 0 0] 28)).heap.size) := by show _ < _; simp
            refine hK.out _ _ T18.out (fun hHeld => ?_)
            generalize W15.alloc (.cells #[.int .i64 0, .slice none 0 0, .int .u64 0, .int .u64 0, .int .u64 0, .int .u64 0, .slice none 0 0] 28) = W18 at *
            clear hK
            try simp only [Act.put, List.getElem_toArray, List.getElem_cons_succ, List.getElem_cons_zero, List.setIfInBounds_toArray, List.set_cons_zero, List.set_cons_succ]
            clear hHeld
            refine wpAnyH_ready (rs := [4]) (by kernel_rfl) (by simp) (AllReadyH.cons rfl (fun K hK => ?_) AllReadyH.nil)
            rw [if_pos (by rfl)]
            go_simp
            refine (HP2.out _ (HTW.out.trans T18.out (by simp))).out.mono ?_
            rintro e W19 ⟨ya, yc, yo, yd, rfl, ⟨r1, r2⟩, tn, k1, k2⟩
            go_simp
            have T19 : Hid (Touch W1 W19 []) := T18.out.trans tn (by simp)
            have RA : Hid (∀ V y, Touch W19 V [y] → (W19.heap.size ≤ y ∨ y < W18.heap.size) → VRow V (.slice ya (endW r).st.length yc) (endW r).st) := fun V y t hy => SRow.keepB r1 t (fun hl g hg hs => by have h1 := SRow.block r1 hl g hg; have h2 := k1 g hg; simp at hs; omega)
            have RB : Hid (∀ V y, Touch W19 V [y] → (W19.heap.size ≤ y ∨ y < W18.heap.size) → VRow V (.slice yo (endW r).out.length yd) (endW r).out) := fun V y t hy => SRow.keepB r2 t (fun hl g hg hs => by have h1 := SRow.block r2 hl g hg; have h2 := k2 g hg; simp at hs; omega)
            have HZ19 : Hid _ := HZ18.out.touch tn (by simp)
            have HPT : Hid (Touch W19 W19 []) := Touch.refl _ _
            have HWP : Hid (W19.heap.size ≤ W15.heap.size ∨ W15.heap.size < W18.heap.size) := .inr HPB.out
            clear tn
            refine hK.out _ _ T19.out (fun hHeld => ?_)
            clear hK
            try simp only [Act.put, List.getElem_toArray, List.getElem_cons_succ, List.getElem_cons_zero, List.setIfInBounds_toArray, List.set_cons_zero, List.set_cons_succ]
            refine wpAnyH_take (i := 5) (v := (.tuple #[stV (endW r) (.slice ya (endW r).st.length yc) (.slice yo (endW r).out.length yd), .int .i64 r.1])) rfl (by kernel_rfl) (by kernel_rfl) (by kernel_rfl) (fun _ _ _ h => h) (Or.inl ⟨by rfl, ?_⟩) hHeld ?_
            · intro w' hSw
              go_simp
            try simp only [Act.put, List.getElem_toArray, List.getElem_cons_succ, List.getElem_cons_zero, List.setIfInBounds_toArray, List.set_cons_zero, List.set_cons_succ]
            refine wpAnyH_take (i := 6) (v := (stV (endW r) (.slice ya (endW r).st.length yc) (.slice yo (endW r).out.length yd))) rfl (by kernel_rfl) (by kernel_rfl) (by kernel_rfl) (fun _ _ _ h => h) (Or.inl ⟨by rfl, ?_⟩) hHeld ?_
            · intro w' hSw
              go_simp
            try simp only [Act.put, List.getElem_toArray, List.getElem_cons_succ, List.getElem_cons_zero, List.setIfInBounds_toArray, List.set_cons_zero, List.set_cons_succ]
            refine wpAnyH_take (i := 7) (v := (.int .i64 r.1)) rfl (by kernel_rfl) (by kernel_rfl) (by kernel_rfl) (fun _ _ _ h => h) (Or.inl ⟨by rfl, ?_⟩) hHeld ?_
            · intro w' hSw
              go_simp
            try simp only [Act.put, List.getElem_toArray, List.getElem_cons_succ, List.getElem_cons_zero, List.setIfInBounds_toArray, List.set_cons_zero, List.set_cons_succ]
            clear hHeld
            refine wpAnyH_ready (rs := [9]) (by kernel_rfl) (by simp) (AllReadyH.cons rfl (fun K hK => ?_) AllReadyH.nil)
            rw [if_pos (by rfl)]
            refine wp_store_mid 28 _ _ rfl W15.heap.size 0 (stA (endW r) (.slice ya (endW r).st.length yc) (.slice yo (endW r).out.length yd)) ?_ ?_ ?_ ?_ ?_ ?_
            · rfl
            · rfl
            · exact st_there HZ19.out
            · exact Try.size_state
            · exact st_one _ _ _ _ _ _ _
            obtain ⟨g1, g2⟩ := st_sets HZ19.out (endW r) (.slice ya (endW r).st.length yc) (.slice yo (endW r).out.length yd) _ rfl
            have hpb : W1.heap.size ≤ W15.heap.size := HPL.out
            have TE : Hid (Touch W1 _ []) := T19.out.trans g2 (fun y hy => .inr (by simp at hy; rw [hy]; exact hpb))
            have G1 : Hid _ := g1
            have RR : Hid (VRow (W19.setCells W15.heap.size 0 (stA (endW r) (.slice ya (endW r).st.length yc) (.slice yo (endW r).out.length yd)).toList) (.slice ya (endW r).st.length yc) (endW r).st ∧ VRow (W19.setCells W15.heap.size 0 (stA (endW r) (.slice ya (endW r).st.length yc) (.slice yo (endW r).out.length yd)).toList) (.slice yo (endW r).out.length yd) (endW r).out) := ⟨RA.out _ _ ((HPT.out.mono (by simp)).trans g2 (fun y hy => .inl hy)) HWP.out, RB.out _ _ ((HPT.out.mono (by simp)).trans g2 (fun y hy => .inl hy)) HWP.out⟩
            clear g1 g2
            generalize W19.setCells W15.heap.size 0 _ = W9 at *
            refine hK.out _ _ TE.out (fun hHeld => ?_)
            clear hK
            try simp only [Act.put, List.getElem_toArray, List.getElem_cons_succ, List.getElem_cons_zero, List.setIfInBounds_toArray, List.set_cons_zero, List.set_cons_succ]
            refine wpAnyH_take (i := 10) (v := (.int .i64 r.1)) rfl (by kernel_rfl) (by kernel_rfl) (by kernel_rfl) (fun _ _ _ h => h) (Or.inl ⟨by rfl, ?_⟩) hHeld ?_
            · intro w' hSw
              go_simp
            try simp only [Act.put, List.getElem_toArray, List.getElem_cons_succ, List.getElem_cons_zero, List.setIfInBounds_toArray, List.set_cons_zero, List.set_cons_succ]
            clear hHeld
            refine wpAnyH_done (by kernel_rfl) ?_ _
            exact ⟨W15.heap.size, ya, yc, yo, yd, rfl, G1.out, RR.out, TE.out, hpb⟩
        · rw [if_pos (by rfl)]
          go_simp
          have HZ20 : Hid (StB (W0.alloc (.cells #[.int .i64 0, .slice none 0 0, .int .u64 0, .int .u64 0, .int .u64 0, .int .u64 0, .slice none 0 0] 28)) W0.heap.size zWD (.slice none 0 0) (.slice none 0 0)) := ⟨heap_alloc_new W0 _⟩
          have T20 : Hid (Touch W1 (W0.alloc (.cells #[.int .i64 0, .slice none 0 0, .int .u64 0, .int .u64 0, .int .u64 0, .int .u64 0, .slice none 0 0] 28)) []) := A0.out.alloc _
          have HPL : Hid (W1.heap.size ≤ W0.heap.size) := A0.out.size
          have HPB : Hid (W0.heap.size < (W0.alloc (.cells #[.int .i64 0, .slice none 0 0, .int .u64 0, .int .u64 0, .int .u64 0, .int .u64 0, .slice none 0 0] 28)).heap.size) := by show _ < _; simp
          refine hK.out _ _ T20.out (fun hHeld => ?_)
          generalize W0.alloc (.cells #[.int .i64 0, .slice none 0 0, .int .u64 0, .int .u64 0, .int .u64 0, .int .u64 0, .slice none 0 0] 28) = W20 at *
          clear hK
          try simp only [Act.put, List.getElem_toArray, List.getElem_cons_succ, List.getElem_cons_zero, List.setIfInBounds_toArray, List.set_cons_zero, List.set_cons_succ]
          clear hHeld
          refine wpAnyH_ready (rs := [3]) (by kernel_rfl) (by simp) (AllReadyH.cons rfl (fun K hK => ?_) AllReadyH.nil)
          rw [if_pos (by rfl)]
          go_simp
          refine (HS.out _).out.mono ?_
          rintro e W21 ⟨rfl, tn⟩
          go_simp
          have T21 : Hid (Touch W1 W21 []) := T20.out.trans tn (by simp)
          have HZ21 : Hid _ := HZ20.out.touch tn (by simp)
          replace HPB : Hid (W0.heap.size < W21.heap.size) := Nat.lt_of_lt_of_le HPB.out tn.size
          clear tn
          refine hK.out _ _ T21.out (fun hHeld => ?_)
          clear hK
          try simp only [Act.put, List.getElem_toArray, List.getElem_cons_succ, List.getElem_cons_zero, List.setIfInBounds_toArray, List.set_cons_zero, List.set_cons_succ]
          clear hHeld
          refine wpAnyH_ready (rs := [4]) (by kernel_rfl) (by simp) (AllReadyH.cons rfl (fun K hK => ?_) AllReadyH.nil)
          rw [if_pos (by rfl)]
          go_simp
          refine (HP2.out _ (HTW.out.trans T21.out (by simp))).out.mono ?_
          rintro e W22 ⟨ya, yc, yo, yd, rfl, ⟨r1, r2⟩, tn, k1, k2⟩
          go_simp
          have T22 : Hid (Touch W1 W22 []) := T21.out.trans tn (by simp)
          have RA : Hid (∀ V y, Touch W22 V [y] → (W22.heap.size ≤ y ∨ y < W21.heap.size) → VRow V (.slice ya (endW r).st.length yc) (endW r).st) := fun V y t hy => SRow.keepB r1 t (fun hl g hg hs => by have h1 := SRow.block r1 hl g hg; have h2 := k1 g hg; simp at hs; omega)
          have RB : Hid (∀ V y, Touch W22 V [y] → (W22.heap.size ≤ y ∨ y < W21.heap.size) → VRow V (.slice yo (endW r).out.length yd) (endW r).out) := fun V y t hy => SRow.keepB r2 t (fun hl g hg hs => by have h1 := SRow.block r2 hl g hg; have h2 := k2 g hg; simp at hs; omega)
          have HZ22 : Hid _ := HZ21.out.touch tn (by simp)
          have HPT : Hid (Touch W22 W22 []) := Touch.refl _ _
          have HWP : Hid (W22.heap.size ≤ W0.heap.size ∨ W0.heap.size < W21.heap.size) := .inr HPB.out
          clear tn
          refine hK.out _ _ T22.out (fun hHeld => ?_)
          clear hK
          try simp only [Act.put, List.getElem_toArray, List.getElem_cons_succ, List.getElem_cons_zero, List.setIfInBounds_toArray, List.set_cons_zero, List.set_cons_succ]
          refine wpAnyH_take (i := 5) (v := (.tuple #[stV (endW r) (.slice ya (endW r).st.length yc) (.slice yo (endW r).out.length yd), .int .i64 r.1])) rfl (by kernel_rfl) (by kernel_rfl) (by kernel_rfl) (fun _ _ _ h => h) (Or.inl ⟨by rfl, ?_⟩) hHeld ?_
          · intro w' hSw
            go_simp
          try simp only [Act.put, List.getElem_toArray, List.getElem_cons_succ, List.getElem_cons_zero, List.setIfInBounds_toArray, List.set_cons_zero, List.set_cons_succ]
          refine wpAnyH_take (i := 6) (v := (stV (endW r) (.slice ya (endW r).st.length yc) (.slice yo (endW r).out.length yd))) rfl (by kernel_rfl) (by kernel_rfl) (by kernel_rfl) (fun _ _ _ h => h) (Or.inl ⟨by rfl, ?_⟩) hHeld ?_
          · intro w' hSw
            go_simp
          try simp only [Act.put, List.getElem_toArray, List.getElem_cons_succ, List.getElem_cons_zero, List.setIfInBounds_toArray, List.set_cons_zero, List.set_cons_succ]
          refine wpAnyH_take (i := 7) (v := (.int .i64 r.1)) rfl (by kernel_rfl) (by kernel_rfl) (by kernel_rfl) (fun _ _ _ h => h) (Or.inl ⟨by rfl, ?_⟩) hHeld ?_
          · intro w' hSw
            go_simp
          try simp only [Act.put, List.getElem_toArray, List.getElem_cons_succ, List.getElem_cons_zero, List.setIfInBounds_toArray, List.set_cons_zero, List.set_cons_succ]
          clear hHeld
          refine wpAnyH_ready (rs := [9]) (by kernel_rfl) (by simp) (AllReadyH.cons rfl (fun K hK => ?_) AllReadyH.nil)
          rw [if_pos (by rfl)]
          refine wp_store_mid 28 _ _ rfl W0.heap.size 0 (stA (endW r) (.slice ya (endW r).st.length yc) (.slice yo (endW r).out.length yd)) ?_ ?_ ?_ ?_ ?_ ?_
          · rfl
          · rfl
          · exact st_there HZ22.out
          · exact Try.size_state
          · exact st_one _ _ _ _ _ _ _
          obtain ⟨g1, g2⟩ := st_sets HZ22.out (endW r) (.slice ya (endW r).st.length yc) (.slice yo (endW r).out.length yd) _ rfl
          have hpb : W1.heap.size ≤ W0.heap.size := HPL.out
          have TE : Hid (Touch W1 _ []) := T22.out.trans g2 (fun y hy => .inr (by simp at hy; rw [hy]; exact hpb))
          have G1 : Hid _ := g1
          have RR : Hid (VRow (W22.setCells W0.heap.size 0 (stA (endW r) (.slice ya (endW r).st.length yc) (.slice yo (endW r).out.length yd)).toList) (.slice ya (endW r).st.length yc) (endW r).st ∧ VRow (W22.setCells W0.heap.size 0 (stA (endW r) (.slice ya (endW r).st.length yc) (.slice yo (endW r).out.length yd)).toList) (.slice yo (endW r).out.length yd) (endW r).out) := ⟨RA.out _ _ ((HPT.out.mono (by simp)).trans g2 (fun y hy => .inl hy)) HWP.out, RB.out _ _ ((HPT.out.mono (by simp)).trans g2 (fun y hy => .inl hy)) HWP.out⟩
          clear g1 g2
          generalize W22.setCells W0.heap.size 0 _ = W9 at *
          refine hK.out _ _ TE.out (fun hHeld => ?_)
          clear hK
          try simp only [Act.put, List.getElem_toArray, List.getElem_cons_succ, List.getElem_cons_zero, List.setIfInBounds_toArray, List.set_cons_zero, List.set_cons_succ]
          refine wpAnyH_take (i := 10) (v := (.int .i64 r.1)) rfl (by kernel_rfl) (by kernel_rfl) (by kernel_rfl) (fun _ _ _ h => h) (Or.inl ⟨by rfl, ?_⟩) hHeld ?_
          · intro w' hSw
            go_simp
          try simp only [Act.put, List.getElem_toArray, List.getElem_cons_succ, List.getElem_cons_zero, List.setIfInBounds_toArray, List.set_cons_zero, List.set_cons_succ]
          clear hHeld
          refine wpAnyH_done (by kernel_rfl) ?_ _
          exact ⟨W0.heap.size, ya, yc, yo, yd, rfl, G1.out, RR.out, TE.out, hpb⟩
      · rw [if_pos (by rfl)]
        go_simp
        have HZ23 : Hid (StB (W0.alloc (.cells #[.int .i64 0, .slice none 0 0, .int .u64 0, .int .u64 0, .int .u64 0, .int .u64 0, .slice none 0 0] 28)) W0.heap.size zWD (.slice none 0 0) (.slice none 0 0)) := ⟨heap_alloc_new W0 _⟩
        have T23 : Hid (Touch W1 (W0.alloc (.cells #[.int .i64 0, .slice none 0 0, .int .u64 0, .int .u64 0, .int .u64 0, .int .u64 0, .slice none 0 0] 28)) []) := A0.out.alloc _
        have HPL : Hid (W1.heap.size ≤ W0.heap.size) := A0.out.size
        have HPB : Hid (W0.heap.size < (W0.alloc (.cells #[.int .i64 0, .slice none 0 0, .int .u64 0, .int .u64 0, .int .u64 0, .int .u64 0, .slice none 0 0] 28)).heap.size) := by show _ < _; simp
        refine hK.out _ _ T23.out (fun hHeld => ?_)
        generalize W0.alloc (.cells #[.int .i64 0, .slice none 0 0, .int .u64 0, .int .u64 0, .int .u64 0, .int .u64 0, .slice none 0 0] 28) = W23 at *
        clear hK
        try simp only [Act.put, List.getElem_toArray, List.getElem_cons_succ, List.getElem_cons_zero, List.setIfInBounds_toArray, List.set_cons_zero, List.set_cons_succ]
        clear hHeld
        refine wpAnyH_ready (rs := [1]) (by kernel_rfl) (by simp) (AllReadyH.cons rfl (fun K hK => ?_) AllReadyH.nil)
        rw [if_pos (by rfl)]
        go_simp
        refine (HF.out _).out.mono ?_
        rintro e wf ⟨rfl, rfl⟩
        go_simp
        refine hK.out _ _ T23.out (fun hHeld => ?_)
        clear hK
        try simp only [Act.put, List.getElem_toArray, List.getElem_cons_succ, List.getElem_cons_zero, List.setIfInBounds_toArray, List.set_cons_zero, List.set_cons_succ]
        clear hHeld
        refine wpAnyH_ready (rs := [3]) (by kernel_rfl) (by simp) (AllReadyH.cons rfl (fun K hK => ?_) AllReadyH.nil)
        rw [if_pos (by rfl)]
        go_simp
        refine (HS.out _).out.mono ?_
        rintro e W25 ⟨rfl, tn⟩
        go_simp
        have T25 : Hid (Touch W1 W25 []) := T23.out.trans tn (by simp)
        have HZ25 : Hid _ := HZ23.out.touch tn (by simp)
        replace HPB : Hid (W0.heap.size < W25.heap.size) := Nat.lt_of_lt_of_le HPB.out tn.size
        clear tn
        refine hK.out _ _ T25.out (fun hHeld => ?_)
        clear hK
        try simp only [Act.put, List.getElem_toArray, List.getElem_cons_succ, List.getElem_cons_zero, List.setIfInBounds_toArray, List.set_cons_zero, List.set_cons_succ]
        clear hHeld
        refine wpAnyH_ready (rs := [4]) (by kernel_rfl) (by simp) (AllReadyH.cons rfl (fun K hK => ?_) AllReadyH.nil)
        rw [if_pos (by rfl)]
        go_simp
        refine (HP2.out _ (HTW.out.trans T25.out (by simp))).out.mono ?_
        rintro e W26 ⟨ya, yc, yo, yd, rfl, ⟨r1, r2⟩, tn, k1, k2⟩
        go_simp
        have T26 : Hid (Touch W1 W26 []) := T25.out.trans tn (by simp)
        have RA : Hid (∀ V y, Touch W26 V [y] → (W26.heap.size ≤ y ∨ y < W25.heap.size) → VRow V (.slice ya (endW r).st.length yc) (endW r).st) := fun V y t hy => SRow.keepB r1 t (fun hl g hg hs => by have h1 := SRow.block r1 hl g hg; have h2 := k1 g hg; simp at hs; omega)
        have RB : Hid (∀ V y, Touch W26 V [y] → (W26.heap.size ≤ y ∨ y < W25.heap.size) → VRow V (.slice yo (endW r).out.length yd) (endW r).out) := fun V y t hy => SRow.keepB r2 t (fun hl g hg hs => by have h1 := SRow.block r2 hl g hg; have h2 := k2 g hg; simp at hs; omega)
        have HZ26 : Hid _ := HZ25.out.touch tn (by simp)
        have HPT : Hid (Touch W26 W26 []) := Touch.refl _ _
        have HWP : Hid (W26.heap.size ≤ W0.heap.size ∨ W0.heap.size < W25.heap.size) := .inr HPB.out
        clear tn
        refine hK.out _ _ T26.out (fun hHeld => ?_)
        clear hK
        try simp only [Act.put, List.getElem_toArray, List.getElem_cons_succ, List.getElem_cons_zero, List.setIfInBounds_toArray, List.set_cons_zero, List.set_cons_succ]
        refine wpAnyH_take (i := 5) (v := (.tuple #[stV (endW r) (.slice ya (endW r).st.length yc) (.slice yo (endW r).out.length yd), .int .i64 r.1])) rfl (by kernel_rfl) (by kernel_rfl) (by kernel_rfl) (fun _ _ _ h => h) (Or.inl ⟨by rfl, ?_⟩) hHeld ?_
        · intro w' hSw
          go_simp
        try simp only [Act.put, List.getElem_toArray, List.getElem_cons_succ, List.getElem_cons_zero, List.setIfInBounds_toArray, List.set_cons_zero, List.set_cons_succ]
        refine wpAnyH_take (i := 6) (v := (stV (endW r) (.slice ya (endW r).st.length yc) (.slice yo (endW r).out.length yd))) rfl (by kernel_rfl) (by kernel_rfl) (by kernel_rfl) (fun _ _ _ h => h) (Or.inl ⟨by rfl, ?_⟩) hHeld ?_
        · intro w' hSw
          go_simp
        try simp only [Act.put, List.getElem_toArray, List.getElem_cons_succ, List.getElem_cons_zero, List.setIfInBounds_toArray, List.set_cons_zero, List.set_cons_succ]
        refine wpAnyH_take (i := 7) (v := (.int .i64 r.1)) rfl (by kernel_rfl) (by kernel_rfl) (by kernel_rfl) (fun _ _ _ h => h) (Or.inl ⟨by rfl, ?_⟩) hHeld ?_
        · intro w' hSw
          go_simp
        try simp only [Act.put, List.getElem_toArray, List.getElem_cons_succ, List.getElem_cons_zero, List.setIfInBounds_toArray, List.set_cons_zero, List.set_cons_succ]
        clear hHeld
        refine wpAnyH_ready (rs := [9]) (by kernel_rfl) (by simp) (AllReadyH.cons rfl (fun K hK => ?_) AllReadyH.nil)
        rw [if_pos (by rfl)]
        refine wp_store_mid 28 _ _ rfl W0.heap.size 0 (stA (endW r) (.slice ya (endW r).st.length yc) (.slice yo (endW r).out.length yd)) ?_ ?_ ?_ ?_ ?_ ?_
        · rfl
        · rfl
        · exact st_there HZ26.out
        · exact Try.size_state
        · exact st_one _ _ _ _ _ _ _
        obtain ⟨g1, g2⟩ := st_sets HZ26.out (endW r) (.slice ya (endW r).st.length yc) (.slice yo (endW r).out.length yd) _ rfl
        have hpb : W1.heap.size ≤ W0.heap.size := HPL.out
        have TE : Hid (Touch W1 _ []) := T26.out.trans g2 (fun y hy => .inr (by simp at hy; rw [hy]; exact hpb))
        have G1 : Hid _ := g1
        have RR : Hid (VRow (W26.setCells W0.heap.size 0 (stA (endW r) (.slice ya (endW r).st.length yc) (.slice yo (endW r).out.length yd)).toList) (.slice ya (endW r).st.length yc) (endW r).st ∧ VRow (W26.setCells W0.heap.size 0 (stA (endW r) (.slice ya (endW r).st.length yc) (.slice yo (endW r).out.length yd)).toList) (.slice yo (endW r).out.length yd) (endW r).out) := ⟨RA.out _ _ ((HPT.out.mono (by simp)).trans g2 (fun y hy => .inl hy)) HWP.out, RB.out _ _ ((HPT.out.mono (by simp)).trans g2 (fun y hy => .inl hy)) HWP.out⟩
        clear g1 g2
        generalize W26.setCells W0.heap.size 0 _ = W9 at *
        refine hK.out _ _ TE.out (fun hHeld => ?_)
        clear hK
        try simp only [Act.put, List.getElem_toArray, List.getElem_cons_succ, List.getElem_cons_zero, List.setIfInBounds_toArray, List.set_cons_zero, List.set_cons_succ]
        refine wpAnyH_take (i := 10) (v := (.int .i64 r.1)) rfl (by kernel_rfl) (by kernel_rfl) (by kernel_rfl) (fun _ _ _ h => h) (Or.inl ⟨by rfl, ?_⟩) hHeld ?_
        · intro w' hSw
          go_simp
        try simp only [Act.put, List.getElem_toArray, List.getElem_cons_succ, List.getElem_cons_zero, List.setIfInBounds_toArray, List.set_cons_zero, List.set_cons_succ]
        clear hHeld
        refine wpAnyH_done (by kernel_rfl) ?_ _
        exact ⟨W0.heap.size, ya, yc, yo, yd, rfl, G1.out, RR.out, TE.out, hpb⟩
    · intro ex act W2 hx
      cases ex with
      | normal => ?_
      | _ => exact hx.elim
      obtain ⟨p2, ya, yc, yo, yd, rfl, z1, ⟨z2, z3⟩, z4, z5⟩ := hx
      have hzx := HZ1.out.touch z4 (by simp)
      have HZX : Hid (∀ V, Touch W2 V [] → StB V p (endW r) (.slice xa (endW r).st.length xc) (.slice xo (endW r).out.length xd) ∧ StB V p2 (endW r) (.slice ya (endW r).st.length yc) (.slice yo (endW r).out.length yd)) := fun V t => ⟨hzx.touch t (by simp), z1.touch t (by simp)⟩
      have HTW2 : Hid _ := HTW.out.trans z4 (by simp)
      have HLV : Hid (HidC Try.prog 12 #[] W2 fun e w' => e = .returned (.bool true) ∧ Touch W2 w' []) := ⟨splive_any W2⟩
      have HSS : Hid (∀ V, Touch W2 V [] → HidC Try.prog 13 #[stV (endW r) (.slice xa (endW r).st.length xc) (.slice xo (endW r).out.length xd), stV (endW r) (.slice ya (endW r).st.length yc) (.slice yo (endW r).out.length yd)] V fun e w' => e = .returned (.bool true) ∧ Touch V w' []) := fun V t => ⟨spsames_any (endW r) xa xo ya yo xc xd yc yd HEL.out.1 HEL.out.2 V (SRow.keep (SRow.keep HR1.out z4 (by simp)) t (by simp)) (SRow.keep (SRow.keep HR2.out z4 (by simp)) t (by simp)) (SRow.keep z2 t (by simp)) (SRow.keep z3 t (by simp))⟩
      clear z1 z2 z3 z4 z5 hzx HR1 HR2 HEL
      go_wp2_with fail
      refine HLV.out.out.mono ?_
      rintro e w5 ⟨rfl, t5⟩
      obtain ⟨b1, b2⟩ := HZX.out _ t5
      obtain ⟨x0, x1, x2, x3, x4, x5, x6⟩ := b1.cells
      obtain ⟨y0, y1, y2, y3, y4, y5, y6⟩ := b2.cells
      have HS5 : HidC _ _ _ _ _ := HSS.out _ t5
      have HT5 : Hid (Touch w w5 []) := HTW2.out.trans t5 (by simp)
      clear b1 b2 t5 HZX HSS HLV
      go_wp2_with fail
      refine HS5.out.mono ?_
      rintro e w6 ⟨rfl, t6⟩
      have HT6 : Hid (Touch w w6 []) := HT5.out.trans t6 (by simp)
      clear t6 HS5 x0 x1 x2 x3 x4 x5 x6 y0 y1 y2 y3 y4 y5 y6
      go_wp2
      go_ret
      exact ⟨rfl, HT6.out⟩

end Go.Proofs.Ytlndbligbpfdpaa
