/-
  The document's Over, SameVals, AND WritesOver, WALKED.
-/
import Derived.Test.YtijnepbmkkdpnaaWritesOver
import Derived.Test.YtijnepbmkkdpnaaCapsOf
namespace Go.Proofs.Ytijnepbmkkdpnaa
set_option linter.unusedVariables false
set_option linter.unusedSimpArgs false
open Go.RowKit Go.Maps Go.Shelf
attribute [local go_sem] Oper.semAt_some

set_option maxRecDepth 100000 in
set_option maxHeartbeats 1000000 in
theorem rover_any {B : Nat} {w : World} {b : Nat} {vl : Value} {Fs : List Fr} (h : RLog B w b vl Fs.reverse) (ao : Option Addr) (cap : Nat) (l : List Int) (hr : ValRow w (.slice ao l.length cap) l) (hl : l.length ≤ 20) (hok : ∀ f ∈ Fs, FrOk f) :
    Calls Try.prog 10 #[ptr b, .slice ao l.length cap] w (ValsPost w (ovP l (allK (getF Fs) 12))) := by
  have hend := ov_end (G := getF Fs) (fun t => getF_far hok t) l l.length (Nat.le_refl _)
  have t0 := (Touch.refl w []).alloc (.cells #[] 38)
  obtain ⟨g, cap', w2, h1, h2, h3⟩ := run_vals 23 (empty_row w 38 1) ao cap l (SRow.keep hr t0 (by simp)) hl (by simp)
  have t2 : Touch w w2 [] := t0.grown h3 (by intro k hk; cases hk; exact .inr (Nat.le_refl _))
  rw [← hend]
  have HS : Hid _ := h
  clear hr h3 t0 hok h hend
  obtain ⟨n, hn⟩ : ∃ n, n = l.length := ⟨_, rfl⟩
  rw [← hn] at h1 h2 hl ⊢
  have HN : Hid _ := hn
  have H2 : Hid _ := h2
  have HT2 : Hid _ := t2
  clear hn h2 t2
  go_enter Try.func10, Try.ntmps10
  go_wp2_with (at_builtin; refine Lib.wpList_append_run _ rfl _ _ _ _ rfl _ _ rfl rfl _ _ h1 ?_)
  clear h1
  go_loopw [6] (fun t wr => ∃ k : Nat, t = .int .i64 k ∧ k ≤ n ∧ wr.ownsRow w.heap.size 38 1 (.slice (some ⟨g, 0, none⟩) n cap') n (valC (ovP l (allK (getF Fs) k))) ∧ Touch w wr []) (fun t _ => n - (intOf t).toNat)
  case atStart => exact ⟨0, rfl, Nat.zero_le _, H2.out, HT2.out⟩
  case round =>
    obtain ⟨k, rfl, hk, hrow, hT⟩ := hrel
    have HT : Hid _ := hT
    by_cases hlt : k < n
    · have hlt' : (k : Int) < n := by omega
      have h0k : (0 : Int) ≤ k := by omega
      have hg := rget_any (HS.out.touch hT) k
      rw [List.reverse_reverse] at hg
      clear hT
      cases hq : getF Fs k with
      | none =>
        rw [hq] at hg
        simp only [Option.getD_none, Option.isSome_none] at hg
        have e1 := allK_none hq
        rw [← e1] at hrow
        have HR : Hid _ := hrow
        clear hrow hq e1
        go_wp2_with fail
        refine hg.mono ?_
        rintro e w1 ⟨rfl, t1⟩
        clear hg
        have HR1 : Hid _ := ownsRow_touch HR.out t1 (by simp)
        clear HR
        go_wp2
        go_roundw
        case rel => exact ⟨k + 1, by go_num, by omega, HR1.out, HT.out.trans t1 (by simp)⟩
        case measure => simp [intOf]; omega
      | some x =>
        rw [hq] at hg
        simp only [Option.getD_some, Option.isSome_some] at hg
        have e1 : ovP l (allK (getF Fs) (k + 1)) = (ovP l (allK (getF Fs) k)).set k x := by rw [allK_some hq, ovP_snoc]; rfl
        have HE : Hid _ := e1
        have HR : Hid _ := hrow
        clear hrow hq e1
        go_wp2_with fail
        refine hg.mono ?_
        rintro e w1 ⟨rfl, t1⟩
        clear hg
        have hr1 := ownsRow_touch HR.out t1 (by simp)
        have hcg : ∃ u, w1.cell? ⟨g, k, none⟩ = some u := by
          have := hr1.cells (g := g) rfl k ((valC (ovP l (allK (getF Fs) k)))[k]'(by simp [ovP_len]; rw [← HN.out]; omega)) (List.getElem?_eq_getElem _)
          rw [Addr.add_lit] at this
          exact ⟨_, by simpa using this⟩
        obtain ⟨u, hcg⟩ := hcg
        have hgg : w.heap.size ≤ g ∧ ∃ cur, w1.heap[g]? = some (.cells cur 38 (0, 0)) := by
          rcases hr1.2 with ⟨e, e0⟩ | ⟨g', cap2, cur, e, hgB, hg, hx5⟩
          · simp at e
          · simp only [Value.slice.injEq, Option.some.injEq, Addr.mk.injEq] at e
            obtain ⟨⟨rfl, _⟩, _, rfl⟩ := e
            exact ⟨hgB, cur, hg⟩
        obtain ⟨hgB, cur, hgc⟩ := hgg
        have hfg : w1.frozen? ⟨g, k, none⟩ = false := by simp [World.frozen?, hgc]
        have hr1' : w1.ownsRow w.heap.size 38 1 (.slice (some ⟨g, 0, none⟩) (ovP l (allK (getF Fs) k)).length cap') (ovP l (allK (getF Fs) k)).length (valC (ovP l (allK (getF Fs) k))) := by
          rw [ovP_len, ← HN.out]; exact hr1
        have hset := vals_set hr1' k x
        rw [ovP_len, ← HN.out, ← HE.out] at hset
        have HSET : Hid _ := hset
        clear HR hr1 hr1' hset hgc
        go_wp2
        go_roundw
        case rel => exact ⟨k + 1, by go_num, by omega, HSET.out, (HT.out.trans t1 (by simp)).setCell (.inr hgB) _⟩
        case measure => simp [intOf]; omega
    · obtain rfl : k = n := by omega
      have HR : Hid _ := hrow
      clear hrow hT hlt
      go_wp2
      go_ret
      refine ⟨_, rfl, ?_, HT.out⟩
      rw [ovP_len, ← HN.out]
      exact HR.out

set_option maxRecDepth 100000 in
set_option maxHeartbeats 1600000 in
theorem sameVals_eq (va vb : Value) (xs : List Int) (w : World) (hn : xs.length ≤ 1000) (ha : ValRow w va xs) (hb : ValRow w vb xs) : Calls Try.prog 8 #[va, vb] w (TrueN w) := by
  obtain ⟨ao, ca, rfl, hac⟩ := ha
  obtain ⟨bo, cb, rfl, hbc⟩ := hb
  obtain ⟨n, hnn⟩ : ∃ n, n = xs.length := ⟨_, rfl⟩
  rw [← hnn] at hn ⊢
  have HN : Hid _ := hnn
  have HA : Hid _ := hac
  have HB : Hid _ := hbc
  clear hnn hac hbc
  go_enter Try.func8, Try.ntmps8
  go_wp2_with fail
  go_loopw [5] (fun i wr => ∃ k : Nat, i = .int .i64 k ∧ k ≤ n ∧ Touch w wr []) (fun i _ => n - (intOf i).toNat)
  case atStart => exact ⟨0, rfl, Nat.zero_le _, Touch.refl _ _⟩
  case round =>
    obtain ⟨k, rfl, hk, t⟩ := hrel
    by_cases hlt : k < n
    · have h1 : (k : Int) < n := by omega
      have h0 : (0 : Int) ≤ k := by omega
      have hkx : k < xs.length := by rw [← HN.out]; exact hlt
      have hne : xs ≠ [] := by intro e; rw [e] at hkx; simp at hkx
      obtain ⟨ga, oa, rfl, hga, hca⟩ := HA.out hne
      obtain ⟨gb, ob, rfl, hgb, hcb⟩ := HB.out hne
      have c1 := (t.cell (p := ⟨ga, oa + k, none⟩) hga (by simp)).trans (by simpa using hca k hkx 0 (by omega))
      have c2 := (t.cell (p := ⟨gb, ob + k, none⟩) hgb (by simp)).trans (by simpa using hcb k hkx 0 (by omega))
      generalize xs[k] = x at *
      clear hca hcb HA HB hkx hne
      go_wp2_with fail
      go_quiet (fail)
      go_wp2
      go_roundw
      case rel => exact ⟨k + 1, by go_num, by omega, t.drewN _⟩
      case measure => simp [intOf]; omega
    · go_wp2
      go_ret
      exact ⟨rfl, t⟩

theorem val_flat (ls : List Int) : ls.flatMap (fun x : Int => [Value.int .u64 x]) = valC ls := by
  induction ls with
  | nil => rfl
  | cons x l ih => rw [List.flatMap_cons, ih]; rfl

theorem ValsPost.row {w : World} {ls : List Int} {e : Ending} {w' : World} (h : ValsPost w ls e w') : ∃ ao cap, e = .returned (.slice ao ls.length cap) ∧ ValRow w' (.slice ao ls.length cap) ls ∧ Touch w w' [] := by
  obtain ⟨v, rfl, ho, t⟩ := h
  obtain ⟨ao, cap, rfl⟩ := owns_form ho
  refine ⟨ao, cap, rfl, ?_, t⟩
  have hf := val_flat ls
  refine srow_of_owns (cells := fun x : Int => [Value.int .u64 x]) (n := 1) (B := w.heap.size) (e := 38) (fun _ => rfl) ?_
  rw [hf]
  exact ho

theorem PLog.oks2 {B : Nat} {w : World} {b : Nat} {ch : List (Nat × Nat)} {Fs : List Fr} (h : PLog B w b ch Fs) : ∀ f ∈ Fs, FrOk f := fun f hf => by
  obtain ⟨i, hi, rfl⟩ := List.getElem_of_mem hf
  exact (h.fr i (by rw [h.len]; exact hi) hi).ok

set_option maxRecDepth 100000 in
set_option maxHeartbeats 1600000 in
theorem wover_any (ao : Option Addr) (cap : Nat) (l : List DeedD) (bo : Option Addr) (cap2 : Nat) (m : List Int) (w : World) (hr : DeedRow w (.slice ao l.length cap) l) (hl : l.length ≤ maxLen) (hwf : ∀ e ∈ l, e.Wf)
    (hr2 : ValRow w (.slice bo m.length cap2) m) (hc2 : m.length ≤ cap2 ∧ cap2 ≤ maxLen) :
    Calls Try.prog 3 #[.slice ao l.length cap, .slice bo m.length cap2] w (TrueN w) := by
  have hp := play_any ao cap l w hr hl hwf
  clear hr hl hwf
  obtain ⟨N, hN⟩ : ∃ N, N = m.length := ⟨_, rfl⟩
  obtain ⟨hc2, hcm⟩ := hc2
  unfold maxLen at hcm
  rw [← hN] at hc2
  obtain ⟨h, hh⟩ : ∃ h, h = m.take 20 := ⟨_, rfl⟩
  have h20 : h.length ≤ 20 := by rw [hh]; simp; omega
  have hlen : N ≤ 20 → N = h.length := by intro hle; rw [hh, hN]; simp; omega
  have hlen2 : 20 < N → h.length = 20 := by intro hle; rw [hh]; simp; omega
  have hvr : ValRow w (.slice bo h.length cap2) h := by
    rw [hh]
    by_cases h0 : m.length ≤ 20
    · rw [List.take_of_length_le h0]; exact hr2
    · exact SRow.first hr2 20 (by omega)
  have hbo : 20 < N → ∃ g off, bo = some ⟨g, off, none⟩ := fun hq => by
    obtain ⟨g, off, e, _⟩ := hr2.one 0 (by omega)
    exact ⟨g, off, e⟩
  have HVR : Hid (ValRow w (.slice bo h.length cap2) h) := hvr
  clear hvr hh hr2
  go_enter Try.func3, Try.ntmps3
  rw [← hN]
  clear hN
  have hm : N ≤ 20 ∨ 20 < N := by omega
  rcases hm with hm | hm
  · obtain rfl := hlen hm
    have hn' : ¬ ((h.length : Int) > 20) := by omega
    clear hlen hlen2 hbo
    generalize hq : h.length = n at hn' h20 hc2 hm ⊢
    go_wp2_with fail
    refine hp.mono ?_
    rintro e w1 ⟨b, ch, rb, vr, rfl, h1, t1⟩
    have H1 : Hid _ := h1
    have HQ : Hid _ := hq
    have T1 : Hid _ := t1
    clear hp h1 hq t1 hm
    go_wp2_with fail
    refine (live_any w1).mono ?_
    rintro e w2 ⟨rfl, t2⟩
    generalize runF [f0] (l.take 60) = Fs at *
    have p2 := H1.out.touch t2
    have v2 := SRow.keep HVR.out (T1.out.trans t2 (by simp)) (by simp)
    have a1 := over_any p2.p _ _ h v2 (by rw [HQ.out]; omega)
    have hle : (ovP h (allK (getF Fs) 12)).length = h.length := ovP_len _ _
    have P2 : Hid _ := p2
    have V2 : Hid (ValRow w2 (.slice _ h.length cap2) h) := v2
    have HLE : Hid _ := hle
    rw [HQ.out] at a1
    clear p2 v2 hle H1 HVR
    go_wp2_with fail
    refine a1.mono ?_
    intro e w3 q3
    obtain ⟨ao3, cap3, rfl, r3, t3⟩ := q3.row
    rw [HLE.out, HQ.out]
    have v3 := SRow.keep V2.out t3 (by simp)
    have p3 := P2.out.touch t3
    have a2 := rover_any p3.r _ _ h v3 (by rw [HQ.out]; omega) p3.p.oks2
    rw [HQ.out] at a2
    have P3 : Hid _ := p3
    have V3 : Hid (ValRow w3 (.slice _ h.length cap2) h) := v3
    have R3 : Hid (ValRow w3 (.slice ao3 (ovP h (allK (getF Fs) 12)).length cap3) (ovP h (allK (getF Fs) 12))) := r3
    have T3 : Hid _ := (T1.out.trans t2 (by simp)).trans t3 (by simp)
    clear p3 v3 r3 t3 q3 a1 P2 V2 t2 T1
    go_wp2_with fail
    refine a2.mono ?_
    intro e w4 q4
    obtain ⟨ao4, cap4, rfl, r4, t4⟩ := q4.row
    rw [HLE.out, HQ.out]
    have a3 := sameVals_eq _ _ (ovP h (allK (getF Fs) 12)) w4 (by rw [HLE.out, HQ.out]; omega) (SRow.keep R3.out t4 (by simp)) r4
    rw [HLE.out, HQ.out] at a3
    have a4 := fun W (t : Touch w4 W []) => over_any (P3.out.touch (t4.trans t (by simp))).p _ _ h (SRow.keep V3.out (t4.trans t (by simp)) (by simp)) (by rw [HQ.out]; omega)
    rw [HQ.out] at a4
    have A4 : Hid _ := a4
    have T4 : Hid _ := T3.out.trans t4 (by simp)
    clear a2 a4 r4 t4 q4 P3 V3 R3 T3
    go_wp2_with fail
    refine a3.mono ?_
    rintro e w5 ⟨rfl, t5⟩
    have a5 := A4.out w5 t5
    clear a3 A4
    go_wp2_with fail
    refine a5.mono ?_
    intro e w6 q6
    obtain ⟨ao6, cap6, rfl, r6, t6⟩ := q6.row
    rw [HLE.out, HQ.out]
    clear r6 q6 a5
    go_wp2
    go_ret
    exact ⟨by simp, (T4.out.trans t5 (by simp)).trans t6 (by simp)⟩
  · have hn' : ((N : Int) > 20) := by omega
    have hq := hlen2 hm
    obtain ⟨g, off, rfl⟩ := hbo hm
    have hcz : (20 : Int) ≤ cap2 := by omega
    clear hlen hlen2 hbo
    have HQ0 : Hid _ := hq
    clear hq
    go_wp2_with fail
    refine hp.mono ?_
    rintro e w1 ⟨b, ch, rb, vr, rfl, h1, t1⟩
    have hq := HQ0.out
    clear HQ0
    have H1 : Hid _ := h1
    have HQ : Hid _ := hq
    have T1 : Hid _ := t1
    clear hp h1 hq t1 hm
    go_wp2_with fail
    refine (live_any w1).mono ?_
    rintro e w2 ⟨rfl, t2⟩
    generalize runF [f0] (l.take 60) = Fs at *
    have p2 := H1.out.touch t2
    have v2 := SRow.keep HVR.out (T1.out.trans t2 (by simp)) (by simp)
    have a1 := over_any p2.p _ _ h v2 (by rw [HQ.out]; omega)
    have hle : (ovP h (allK (getF Fs) 12)).length = h.length := ovP_len _ _
    have P2 : Hid _ := p2
    have V2 : Hid (ValRow w2 (.slice _ h.length cap2) h) := v2
    have HLE : Hid _ := hle
    rw [HQ.out] at a1
    clear p2 v2 hle H1 HVR
    go_wp2_with fail
    refine a1.mono ?_
    intro e w3 q3
    obtain ⟨ao3, cap3, rfl, r3, t3⟩ := q3.row
    rw [HLE.out, HQ.out]
    have v3 := SRow.keep V2.out t3 (by simp)
    have p3 := P2.out.touch t3
    have a2 := rover_any p3.r _ _ h v3 (by rw [HQ.out]; omega) p3.p.oks2
    rw [HQ.out] at a2
    have P3 : Hid _ := p3
    have V3 : Hid (ValRow w3 (.slice _ h.length cap2) h) := v3
    have R3 : Hid (ValRow w3 (.slice ao3 (ovP h (allK (getF Fs) 12)).length cap3) (ovP h (allK (getF Fs) 12))) := r3
    have T3 : Hid _ := (T1.out.trans t2 (by simp)).trans t3 (by simp)
    clear p3 v3 r3 t3 q3 a1 P2 V2 t2 T1
    go_wp2_with fail
    refine a2.mono ?_
    intro e w4 q4
    obtain ⟨ao4, cap4, rfl, r4, t4⟩ := q4.row
    rw [HLE.out, HQ.out]
    have a3 := sameVals_eq _ _ (ovP h (allK (getF Fs) 12)) w4 (by rw [HLE.out, HQ.out]; omega) (SRow.keep R3.out t4 (by simp)) r4
    rw [HLE.out, HQ.out] at a3
    have a4 := fun W (t : Touch w4 W []) => over_any (P3.out.touch (t4.trans t (by simp))).p _ _ h (SRow.keep V3.out (t4.trans t (by simp)) (by simp)) (by rw [HQ.out]; omega)
    rw [HQ.out] at a4
    have A4 : Hid _ := a4
    have T4 : Hid _ := T3.out.trans t4 (by simp)
    clear a2 a4 r4 t4 q4 P3 V3 R3 T3
    go_wp2_with fail
    refine a3.mono ?_
    rintro e w5 ⟨rfl, t5⟩
    have a5 := A4.out w5 t5
    clear a3 A4
    go_wp2_with fail
    refine a5.mono ?_
    intro e w6 q6
    obtain ⟨ao6, cap6, rfl, r6, t6⟩ := q6.row
    rw [HLE.out, HQ.out]
    clear r6 q6 a5
    go_wp2
    go_ret
    exact ⟨by simp, (T4.out.trans t5 (by simp)).trans t6 (by simp)⟩

end Go.Proofs.Ytijnepbmkkdpnaa
