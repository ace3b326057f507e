/-
  package verify: through BY ITS CONTRACT.
-/
import Derived.Test.YtonjbldnhbbdjaaVfNext
namespace Go.Proofs.Ytonjbldnhbbdjaa
set_option linter.unusedVariables false
set_option linter.unusedSimpArgs false
open Go.RowKit
attribute [local go_sem] Oper.semAt_some

/-- What through leaves. -/
def ThruPost (w : World) (b : Nat) (vl : Value) (gd N : Nat) (r : Int × List Int × Int) (e : Ending) (w' : World) : Prop :=
  e = .returned (.tuple #[.int .i64 (if r.1 = 0 then r.2.2 else 0), .int .i64 r.1]) ∧ (∃ D', D'.length = N ∧ (r.1 = 0 → D' = r.2.1) ∧ WAt w' b vl gd N D') ∧ Touch w w' [gd]

set_option maxRecDepth 100000 in
set_option maxHeartbeats 2000000 in
theorem through_any {w : World} {b gd N cap : Nat} {ao : Option Addr} {D : List Int} {l : List InsD} (h : WAt w b (.slice ao N cap) gd N D) (hN : N = l.length) (hn : N ≤ 900) (hr : InsV w (.slice ao N cap) l) (k : Nat) (hk : k < N)
    (hng : ∀ g off, ao = some ⟨g, off, none⟩ → g ≠ gd)
    (ha : opAt l k = 23 ∨ opAt l k = 24 → -1000 ≤ argAt l k ∧ argAt l k ≤ 1000) (hd : -1 ≤ dAt D k ∧ dAt D k ≤ 12) :
    Calls Try.prog 48 #[.pointer (some ⟨b, 0, none⟩), .int .i64 k] w (ThruPost w b (.slice ao N cap) gd N (sprV l D k)) := by
  have hr0 := hr
  rw [hN] at hr0
  obtain ⟨g, off, rfl, hg, c0, c1, c2⟩ := insv_at hr0 k (by omega)
  have d0 : w.cell? ⟨b, 0, none⟩ = some (.slice (some ⟨g, off, none⟩) N cap) := by unfold World.cell?; rw [h.st]; rfl
  have d1 : w.cell? ⟨b, 1, none⟩ = some (.slice (some ⟨gd, 0, none⟩) N N) := by unfold World.cell?; rw [h.st]; rfl
  have dk := h.at k hk
  have hkN : (k : Int) < N := by omega
  have hk0 : (0 : Int) ≤ k := by omega
  have hpo := pop_le (opAt l k)
  have hpu := push_le (opAt l k)
  have heff : HidC _ _ _ _ _ := ⟨eff_any (opAt l k) w⟩
  have hnx : HidC _ _ _ _ _ := ⟨nexts_any h hN hn hr k hk ha⟩
  have HW : Hid _ := h
  have HN : Hid _ := hN
  unfold sprV
  rw [← hN]
  unfold behV
  clear h hr hr0 c1 c2 ha
  generalize opAt l k = o at *
  generalize hdk : dAt D k = d at *
  generalize hpv : popV o = p at *
  generalize hqv : pushV o = q at *
  have w1 : IntKind.i64.wrap (d - p) = d - p := by rw [IntKind.wrap_i64]; omega
  have w2 : IntKind.i64.wrap (d - p + q) = d - p + q := by rw [IntKind.wrap_i64]; omega
  clear hN hpv hqv hdk
  by_cases h1 : d < p
  · rw [if_pos (.inl h1)]
    go_enter Try.func48, Try.ntmps48
    go_wp2_with fail
    refine heff.out.mono ?_
    rintro e w3 ⟨rfl, rfl⟩
    clear heff hnx
    go_wp2
    refine bodyPost_ret (v := .tuple #[.int .i64 0, .int .i64 12]) (by simp [results, Try.results48, go_sem]) rfl ?_
    exact ⟨rfl, ⟨D, HW.out.len, by simp, HW.out⟩, Touch.refl _ _⟩
  · by_cases h2 : 12 < d - p + q
    · rw [if_pos (.inr h2)]
      go_enter Try.func48, Try.ntmps48
      go_wp2_with fail
      refine heff.out.mono ?_
      rintro e w3 ⟨rfl, rfl⟩
      clear heff hnx
      go_wp2
      refine bodyPost_ret (v := .tuple #[.int .i64 0, .int .i64 12]) (by simp [results, Try.results48, go_sem]) rfl ?_
      exact ⟨rfl, ⟨D, HW.out.len, by simp, HW.out⟩, Touch.refl _ _⟩
    · rw [if_neg (fun q => q.elim h1 h2)]
      obtain ⟨beh, hbeh⟩ : ∃ beh, beh = d - p + q := ⟨_, rfl⟩
      have w3 : IntKind.i64.wrap (d - p + q) = beh := by rw [hbeh]; exact w2
      have hb0 : 0 ≤ beh := by omega
      rw [← hbeh] at h2 ⊢
      clear w2 hbeh
      generalize hns : nextV l k = ns at *
      have hnl : ns.length ≤ 2 := by
        rw [← hns]; unfold nextV
        repeat (first | (split; simp) | simp)
      clear hns
      obtain ⟨M, hM⟩ : ∃ M, M = ns.length := ⟨_, rfl⟩
      have HM : Hid _ := hM
      rw [← hM] at hnl hnx
      clear hM
      go_enter Try.func48, Try.ntmps48
      go_wp2_with fail
      refine heff.out.mono ?_
      rintro e w3 ⟨rfl, rfl⟩
      clear heff
      go_wp2_with fail
      refine hnx.out.mono ?_
      rintro e w4 ⟨ao', c', rfl, hrow, t4⟩
      have HROW : Hid (intOwnV w4 w.heap.size (.slice ao' M c') ns) := hrow
      have HT4 : Hid _ := t4
      clear hnx hrow t4 d0 d1 dk c0
      go_wp2_with fail
      go_loopw [9, 57] (fun m i wr => ∃ (j : Nat) (Dj : List Int) (mj : Int), i = .int .i64 j ∧ j ≤ M ∧ m = .int .i64 mj ∧ (ns.take j).foldl (sprS N beh) (0, D, (N : Int)) = (0, Dj, mj) ∧ WAt wr b (.slice (some ⟨g, off, none⟩) N cap) gd N Dj ∧ Touch w4 wr [gd] ∧ 0 ≤ mj ∧ mj ≤ N) (fun _ i _ => M - (intOf i).toNat)
      case atStart => exact ⟨0, D, N, rfl, Nat.zero_le _, rfl, rfl, HW.out.keep HT4.out, Touch.refl _ _, by omega, by omega⟩
      case round =>
        obtain ⟨j, Dj, mj, rfl, hj, rfl, hfo, hWj, hTj, hm0, hmN⟩ := hrel
        by_cases hlt : j < M
        · have hjl : j < ns.length := by rw [← HM.out]; exact hlt
          obtain ⟨gn, cn, hao⟩ := Go.Joins.ownsRow_form HROW.out (by rw [← HM.out]; omega)
          rw [← HM.out] at hao
          simp only [Value.slice.injEq] at hao
          obtain ⟨rfl, _, rfl⟩ := hao
          have hrow : w4.ownsRow w.heap.size 3 1 (.slice (some ⟨gn, 0, none⟩) M c') M (ns.map (Value.int .i64)) := by
            have := HROW.out; unfold intOwnV at this; rw [← HM.out] at this; exact this
          have cn := hrow.cellAt j (by omega)
          have hgn := hrow.lt gn rfl
          have hgdw : gd < w.heap.size := lt_of_heap HW.out.row
          rw [List.getElem?_map, List.getElem?_eq_getElem hjl] at cn
          have hts : ns.take (j + 1) = ns.take j ++ [ns[j]] := List.take_succ_eq_append_getElem hjl
          have HAll : Hid (ns.foldl (sprS N beh) (0, D, (N : Int)) = (ns.drop (j + 1)).foldl (sprS N beh) ((ns.take (j + 1)).foldl (sprS N beh) (0, D, (N : Int)))) := by
            show _ = _
            rw [← List.foldl_append, List.take_append_drop]
          have HFo : Hid ((ns.take (j + 1)).foldl (sprS N beh) (0, D, (N : Int)) = sprS N beh (0, Dj, mj) ns[j]) := by
            show _ = _
            rw [hts, List.foldl_append, hfo]; rfl
          clear hts
          generalize hn' : ns[j] = n at *
          have cn' : wr.cell? ⟨gn, j, none⟩ = some (.int .i64 n) := (hTj.cell (p := ⟨gn, j, none⟩) hgn.2 (by simp; omega)).trans (by simpa using cn)
          have d0 : wr.cell? ⟨b, 0, none⟩ = some (.slice (some ⟨g, off, none⟩) N cap) := by unfold World.cell?; rw [hWj.st]; rfl
          have d1 : wr.cell? ⟨b, 1, none⟩ = some (.slice (some ⟨gd, 0, none⟩) N N) := by unfold World.cell?; rw [hWj.st]; rfl
          have hjM : (j : Int) < M := by omega
          have hj0 : (0 : Int) ≤ j := by omega
          have hjw : IntKind.i64.wrap ((j : Int) + 1) = (j : Int) + 1 := by rw [IntKind.wrap_i64]; omega
          have hpl : HidC _ _ _ _ _ := ⟨place_any (some ⟨g, off, none⟩) N cap n wr⟩
          have HWJ : Hid _ := hWj
          have HTJ : Hid _ := hTj
          clear hrow cn hn' hfo
          by_cases hpn : 0 ≤ n ∧ n < N
          · have edc : decide (0 ≤ n ∧ n < (N : Int)) = true := by simp [hpn]
            rw [edc] at hpl
            obtain ⟨x, hx⟩ : ∃ x : Nat, n = x := ⟨n.toNat, by omega⟩
            have hxN : (x : Int) < N := by omega
            have hx0 : (0 : Int) ≤ x := by omega
            have dx := hWj.at x (by omega)
            have fx := hWj.fz x
            have hnf : ¬ (n < 0 ∨ (N : Int) ≤ n) := by omega
            have htn : n.toNat = x := by omega
            by_cases hu : dAt Dj x = -1
            · have hs := sprS_new (beh := beh) (m := mj) hnf (by rw [htn]; exact hu)
              rw [htn] at hs
              have HS : Hid _ := hs
              subst hx
              rw [hu] at dx
              clear hs hWj hTj edc hnf hpn htn hu
              go_wp2_with fail
              refine hpl.out.mono ?_
              rintro e w5 ⟨rfl, rfl⟩
              clear hpl
              go_wp2
              go_roundw
              case rel =>
                refine ⟨j + 1, Dj.set x beh, min mj x, rfl, by omega, ?_, by rw [HFo.out, HS.out], HWJ.out.put x beh, HTJ.out.setCell (.inl (by simp)) _, by omega, by omega⟩
                first | rfl | (simp; omega)
              case measure => simp [intOf]; omega
            · by_cases hq : dAt Dj x = beh
              · have HS : Hid _ := sprS_ok (beh := beh) (m := mj) hnf (by rw [htn]; exact hu) (by rw [htn]; exact hq)
                subst hx
                rw [hq] at dx
                have hb1 : (beh == -1) = false := by simp; omega
                clear hWj hTj edc hnf hpn htn hu hq
                go_wp2_with fail
                refine hpl.out.mono ?_
                rintro e w5 ⟨rfl, rfl⟩
                clear hpl
                go_wp2
                go_roundw
                case rel => exact ⟨j + 1, Dj, mj, rfl, by omega, rfl, by rw [HFo.out, HS.out], HWJ.out, HTJ.out, by omega, by omega⟩
                case measure => simp [intOf]; omega
              · have HS : Hid _ := sprS_bad (beh := beh) (m := mj) hnf (by rw [htn]; exact hu) (by rw [htn]; exact hq)
                subst hx
                have hb1 : (dAt Dj x == -1) = false := by simpa using hu
                have hb2 : (dAt Dj x == beh) = false := by simpa using hq
                generalize dAt Dj x = y at *
                clear hWj hTj edc hnf hpn htn hu hq
                go_wp2_with fail
                refine hpl.out.mono ?_
                rintro e w5 ⟨rfl, rfl⟩
                clear hpl
                go_wp2
                refine bodyPost_ret (v := .tuple #[.int .i64 0, .int .i64 12]) (by simp [results, Try.results48, go_sem]) rfl ?_
                rw [HAll.out, HFo.out, HS.out, spr_err (by simp)]
                exact ⟨rfl, ⟨Dj, HWJ.out.len, by simp, HWJ.out⟩, (HT4.out.mono (by simp)).trans HTJ.out (by simp)⟩
          · have edc : decide (0 ≤ n ∧ n < (N : Int)) = false := by simpa using hpn
            rw [edc] at hpl
            have HS : Hid _ := sprS_far (N := N) (beh := beh) (D := Dj) (m := mj) (n := n) (by omega)
            clear hWj hTj edc hpn
            go_wp2_with fail
            refine hpl.out.mono ?_
            rintro e w5 ⟨rfl, rfl⟩
            clear hpl
            go_wp2
            refine bodyPost_ret (v := .tuple #[.int .i64 0, .int .i64 3]) (by simp [results, Try.results48, go_sem]) rfl ?_
            rw [HAll.out, HFo.out, HS.out, spr_err (by simp)]
            exact ⟨rfl, ⟨Dj, HWJ.out.len, by simp, HWJ.out⟩, (HT4.out.mono (by simp)).trans HTJ.out (by simp)⟩
        · obtain rfl : j = M := by omega
          have e : ns.take j = ns := List.take_of_length_le (by rw [← HM.out]; exact Nat.le_refl _)
          rw [e] at hfo
          have HWJ : Hid _ := hWj
          have HTJ : Hid _ := hTj
          clear hWj hTj e
          go_wp2
          refine bodyPost_ret (v := .tuple #[.int .i64 mj, .int .i64 0]) (by simp [results, Try.results48, go_sem]) rfl ?_
          rw [hfo]
          exact ⟨rfl, ⟨Dj, HWJ.out.len, fun _ => rfl, HWJ.out⟩, (HT4.out.mono (by simp)).trans HTJ.out (by simp)⟩

end Go.Proofs.Ytonjbldnhbbdjaa
