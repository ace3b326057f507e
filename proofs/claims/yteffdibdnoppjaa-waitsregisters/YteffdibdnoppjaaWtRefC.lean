/-
  The document's lists (rowlockref13): Cancel BY ITS CONTRACT.
-/
import Derived.Test.YteffdibdnoppjaaWtRefM
import Derived.Deep.RegionLaw
namespace Go.Proofs.Yteffdibdnoppjaa
set_option linter.unusedVariables false
set_option linter.unusedSimpArgs false
open Go.RowKit Go.Maps
attribute [local go_sem] Oper.semAt_some

theorem orow_take {w : World} {g cap cap2 : Nat} {L : List WD} (h : ORow w (.slice (some ⟨g, 0, none⟩) L.length cap) L) (k : Nat) (hk : k ≤ L.length) : ORow w (.slice (some ⟨g, 0, none⟩) (L.take k).length cap2) (L.take k) := by
  refine ⟨_, _, rfl, fun hne => ?_⟩
  have hl : 0 < L.length := by cases L with
    | nil => simp at hne
    | cons x L => simp
  obtain ⟨g', off, e, hg, _⟩ := h.at 0 hl
  simp only [Option.some.injEq, Addr.mk.injEq] at e
  obtain ⟨rfl, rfl, _⟩ := e
  refine ⟨g, 0, rfl, hg, fun i hi j hj => ?_⟩
  rw [List.length_take] at hi
  obtain ⟨g2, off2, e2, _, hc⟩ := h.at i (by omega)
  simp only [Option.some.injEq, Addr.mk.injEq] at e2
  obtain ⟨rfl, rfl, _⟩ := e2
  rw [List.getElem_take]
  exact hc j hj
theorem orow_drop {w : World} {g cap cap2 : Nat} {L : List WD} (h : ORow w (.slice (some ⟨g, 0, none⟩) L.length cap) L) (k : Nat) (hk : k ≤ L.length) : ORow w (.slice (some ⟨g, k * 14, none⟩) (L.drop k).length cap2) (L.drop k) := by
  refine ⟨_, _, rfl, fun hne => ?_⟩
  have hl : 0 < L.length := by cases L with
    | nil => simp at hne
    | cons x L => simp
  obtain ⟨g', off, e, hg, _⟩ := h.at 0 hl
  simp only [Option.some.injEq, Addr.mk.injEq] at e
  obtain ⟨rfl, rfl, _⟩ := e
  refine ⟨g, k * 14, rfl, hg, fun i hi j hj => ?_⟩
  rw [List.length_drop] at hi
  obtain ⟨g2, off2, e2, _, hc⟩ := h.at (k + i) (by omega)
  simp only [Option.some.injEq, Addr.mk.injEq] at e2
  obtain ⟨rfl, rfl, _⟩ := e2
  rw [List.getElem_drop]
  have := hc j hj
  rw [Nat.zero_add, Nat.add_mul] at this
  exact this

set_option maxRecDepth 100000 in
set_option maxHeartbeats 1000000 in
theorem rcancel_any {w : World} {b : Nat} {F : List Nat} {L : List WD} (h : RAt w b F L) (th : Int) : Calls Try.prog 43 #[ptr b, .int .i64 th] w fun e w' => e = .returned (.int .i64 (cancelE L th).1) ∧ RPost w b F (cancelE L th).2 w' := by
  have HH : Hid _ := h
  have HST : Hid _ := h.stay (Touch.refl w [])
  have hmy : HidC _ _ _ _ _ := ⟨rmay_any b th w⟩
  have hat : HidC _ _ _ _ _ := ⟨rat_any h th⟩
  obtain ⟨v, rfl, ho⟩ := h
  have hlen := ho.wf.len
  obtain ⟨ao, cap, rfl, c0, f0, hbl, hc⟩ := ho.read
  cases h1 : noTh th with
  | true =>
    have e1 : cancelE L th = (2, L) := by unfold cancelE; rw [if_pos h1]
    rw [e1]
    rw [h1] at hmy
    simp only [if_true] at hmy
    clear ho hc h1 e1 hat
    go_enter Try.func43, Try.ntmps43
    go_wp2_with fail
    refine hmy.out.mono ?_
    rintro e w1 ⟨rfl, rfl⟩
    clear hmy
    go_wp2
    go_ret
    exact ⟨rfl, HST.out⟩
  | false =>
    rw [h1] at hmy
    simp only [Bool.false_eq_true, if_false] at hmy
    cases hf : findW L th with
    | none =>
      have e1 : cancelE L th = (5, L) := by unfold cancelE; rw [if_neg (by rw [h1]; simp), if_neg (by rw [hf]; simp)]
      rw [e1]
      rw [atW_none hf] at hat
      clear ho hc hf h1 e1
      generalize L.length = N at *
      go_enter Try.func43, Try.ntmps43
      go_wp2_with fail
      refine hmy.out.mono ?_
      rintro e w1 ⟨rfl, rfl⟩
      clear hmy
      go_wp2_with fail
      refine hat.out.mono ?_
      rintro e w1 ⟨rfl, rfl⟩
      clear hat
      go_wp2
      go_ret
      exact ⟨rfl, HST.out⟩
    | some x =>
      obtain ⟨k, hk, ek, ex⟩ := atW_some ho.wf hf
      rw [ek] at hat
      obtain ⟨g, rfl, hg, d⟩ := hc k hk
      have hk1 : (k : Int) < L.length := by omega
      have hk0 : (0 : Int) ≤ k := by omega
      have hth : L[k].th = th := by rw [ex]; exact (findW_some hf).2
      have hcp : L.length ≤ cap := by
        rcases ho.own.2 with ⟨e0, h00⟩ | ⟨g', cap'', cur, e0, hB, hgg, hlc, _⟩
        · omega
        · simp only [Value.slice.injEq] at e0
          obtain ⟨_, _, rfl⟩ := e0
          exact hlc
      have e1 : cancelE L th = (0, outP L (fun t => t == th)) := by unfold cancelE; rw [if_neg (by rw [h1]; simp), if_pos (by rw [hf]; rfl)]
      rw [e1]
      have hcut := out_cut ho.wf.nod hk
      rw [hth] at hcut
      have hWF := outP_wf ho.wf (fun t => t == th)
      have hrow : ORow w (.slice (some ⟨g, 0, none⟩) L.length cap) L := srow_of ocells_len ho.own
      have T1 : Touch w (w.alloc (.cells #[] 73)).drew [] := ((Touch.refl w []).alloc _).drew
      have hem : oneOwn (w.alloc (.cells #[] 73)).drew w.heap.size (.slice (some ⟨w.heap.size, 0, none⟩) 0 0) [] := ownsRow_touch (ones_empty w) (Touch.refl _ []).drew (by simp)
      obtain ⟨ao', cap', w2, hrun, hown, t2, hb2⟩ := ones_app hem (orow_take (cap2 := cap) (SRow.keep hrow T1 (by simp)) k (by omega)) (by simp only [List.length_nil, List.length_take]; omega) (by simp [World.drew]) 64
      simp only [List.length_nil, Nat.zero_add, List.nil_append] at hrun hown hb2
      have hlk : (L.take k).length = k := by rw [List.length_take]; omega
      have hld : (L.drop (k + 1)).length = L.length - (k + 1) := by rw [List.length_drop]
      have tw2 : Touch w w2 [] := T1.trans t2 (fun x hx => .inr (by simp [Value.ownBlock] at hx; omega))
      have hob := own_lt hown
      have c2 := (tw2.cell (p := ⟨b, 0, none⟩) hbl (by simp)).trans c0
      have c1 := (T1.cell (p := ⟨b, 0, none⟩) hbl (by simp)).trans c0
      have m0 := ((Touch.refl w []).drew.cell (p := ⟨b, 0, none⟩) hbl (by simp)).trans c0
      have hk2 : (k : Int) ≤ cap := by omega
      have hk3 : (k : Int) + 1 ≤ L.length := by omega
      have hk4 : (0 : Int) ≤ (k : Int) + 1 := by omega
      have hk5 : (L.length : Int) ≤ cap := by omega
      have hfin : ∀ ad : Addr, ORow w (.slice (some ad) (L.drop (k + 1)).length (cap - (k + 1))) (L.drop (k + 1)) → ∃ ao3 cap3 w3, (Builtin.append_ #[64, 64] 64 #[.slice ao' (L.take k).length cap', .slice (some ad) (L.drop (k + 1)).length (cap - (k + 1))]).run Try.prog w2 = .ok (.slice ao3 ((L.take k).length + (L.drop (k + 1)).length) cap3) w3 ∧ w3.cell? ⟨b, 0, none⟩ = some (.slice (some ⟨g, 0, none⟩) L.length cap) ∧ w3.frozen? ⟨b, 0, none⟩ = false ∧ RPost w b (b :: (Value.slice (some ⟨g, 0, none⟩) L.length cap).ownBlock.toList) (outP L (fun t => t == th)) (w3.setCell ⟨b, 0, none⟩ (.slice ao3 ((L.take k).length + (L.drop (k + 1)).length) cap3)) := by
        intro ad har
        obtain ⟨ao3, cap3, w3, hrun3, hown3, t3, hb3⟩ := ones_app hown (SRow.keep har tw2 (by simp)) (by rw [hlk, hld]; omega) tw2.size 64
        have tw3 : Touch w w3 [] := tw2.trans t3 (fun x hx => .inr (hob x (by simpa using hx)).1)
        rw [← hcut] at hown3
        obtain ⟨k1, _, k3⟩ := rstore HH.out tw3 hown3 hWF
        exact ⟨ao3, cap3, w3, hrun3, (tw3.cell (p := ⟨b, 0, none⟩) hbl (by simp)).trans c0, k1, k3⟩
      have hwr : IntKind.i64.wrap ((k : Int) + 1) = (k : Int) + 1 := by rw [IntKind.wrap_i64]; omega
      have htn : ((k : Int) + 1).toNat = k + 1 := by omega
      have hle : (k : Int) ≤ (k : Int) + 1 := by omega
      by_cases hcc : cap = k + 1
      · have hNk : L.length = k + 1 := by omega
        have hd0 : L.drop (k + 1) = [] := List.drop_eq_nil_of_le (by omega)
        obtain ⟨ao3, cap3, w3, hrun3, c3, k1, k3⟩ := hfin ⟨g, 0, none⟩ (by rw [hd0]; exact ⟨_, _, rfl, fun hne => absurd rfl hne⟩)
        rw [hlk] at hrun
        rw [hlk, show (L.drop (k + 1)).length = 0 by rw [hd0]; rfl, Nat.add_zero] at hrun3 k3
        have H3 : Hid _ := k3
        subst hcc
        simp only [Nat.sub_self] at hrun3
        clear ho hc hf h1 e1 d ex hth T1 hown t2 hb2 tw2 hem hrow hcut hWF k3 hlk hld hob ek hfin hd0 hNk
        generalize L.length = N at *
        go_enter Try.func43, Try.ntmps43
        go_wp2_with fail
        refine hmy.out.mono ?_
        rintro e w1 ⟨rfl, rfl⟩
        clear hmy
        go_wp2_with fail
        refine hat.out.mono ?_
        rintro e w1 ⟨rfl, rfl⟩
        clear hat
        go_wp2_with fail
        go_region_law (first | (refine step_append_run (by rfl) (.tmp 19) (.tmp 25) 64 64 (by rfl) (by rfl) (.slice (some ⟨w.heap.size, 0, none⟩) 0 0) (.slice (some ⟨g, 0, none⟩) k (k + 1)) (.slice ao' k cap') w2 (by rfl) (by rfl) hrun ?_) | (refine step_append_run (by rfl) (.tmp 26) (.tmp 33) 64 64 (by rfl) (by rfl) (.slice ao' k cap') (.slice (some ⟨g, 0, none⟩) 0 0) (.slice ao3 k cap3) w3 (by rfl) (by rfl) hrun3 ?_))
        all_goals
          go_wp2
          go_ret
          exact ⟨rfl, H3.out⟩
      · obtain ⟨ao3, cap3, w3, hrun3, c3, k1, k3⟩ := hfin ⟨g, (k + 1) * 14, none⟩ (orow_drop hrow (k + 1) (by omega))
        rw [hlk] at hrun
        rw [hlk, hld] at hrun3 k3
        have H3 : Hid _ := k3
        clear ho hc hf h1 e1 d ex hth T1 hown t2 hb2 tw2 hem hrow hcut hWF k3 hlk hld hob ek hfin
        generalize L.length = N at *
        go_enter Try.func43, Try.ntmps43
        go_wp2_with fail
        refine hmy.out.mono ?_
        rintro e w1 ⟨rfl, rfl⟩
        clear hmy
        go_wp2_with fail
        refine hat.out.mono ?_
        rintro e w1 ⟨rfl, rfl⟩
        clear hat
        go_wp2_with fail
        go_region_law (first | (refine step_append_run (by rfl) (.tmp 19) (.tmp 25) 64 64 (by rfl) (by rfl) (.slice (some ⟨w.heap.size, 0, none⟩) 0 0) (.slice (some ⟨g, 0, none⟩) k cap) (.slice ao' k cap') w2 (by rfl) (by rfl) hrun ?_) | (refine step_append_run (by rfl) (.tmp 26) (.tmp 33) 64 64 (by rfl) (by rfl) (.slice ao' k cap') (.slice (some ⟨g, (k + 1) * 14, none⟩) (N - (k + 1)) (cap - (k + 1))) (.slice ao3 (k + (N - (k + 1))) cap3) w3 (by rfl) (by rfl) hrun3 ?_))
        all_goals
          go_wp2
          go_ret
          exact ⟨rfl, H3.out⟩

end Go.Proofs.Yteffdibdnoppjaa
