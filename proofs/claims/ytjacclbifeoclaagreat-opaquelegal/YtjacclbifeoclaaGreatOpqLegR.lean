/-
  package rowlockref09: each, Legal, Heap BY THEIR CONTRACTS.
-/
import Derived.Test.YtjacclbifeoclaaGreatOpqRunR
import Derived.Test.YtjacclbifeoclaaGreatOpqAbPl
import Derived.Test.YtjacclbifeoclaaGreatHistRefAtt
namespace Go.Proofs.YtjacclbifeoclaaGreat
set_option linter.unusedVariables false
set_option linter.unusedSimpArgs false
open Go.RowKit Go.Maps Go.Shelf
attribute [local go_sem] Oper.semAt_some

/-! ### Plain data -/
theorem beg_nil (l : List EvD) (hp : List Int) : begE l hp [] = if rightS l = false ∨ heapOk hp = false then 3 else 0 := by
  unfold begE
  have : eachP [] (inS l 2) = true := by unfold eachP; simp
  rw [this]
  simp
theorem beg_nil_or (l : List EvD) (hp : List Int) : begE l hp [] = 3 ∨ begE l hp [] = 0 := by
  rw [beg_nil]
  split
  · exact .inl rfl
  · exact .inr rfl
theorem ord_mem {l : List EvD} {o : List Int} (h : ordOk l o = true) : o.Nodup ∧ ∀ x, x ∈ attS l ↔ x ∈ o := by
  unfold ordOk eachP at h
  simp only [Bool.and_eq_true, decide_eq_true_eq] at h
  obtain ⟨hlen, hnd, hsub⟩ := h
  refine ⟨hnd, fun x => ⟨fun hx => ?_, hsub x⟩⟩
  refine Classical.byContradiction fun hno => ?_
  have h1 : o.length ≤ ((attS l).filter fun y => y != x).length := List.Nodup.length_le_of_subset hnd (fun y hy => List.mem_filter.2 ⟨hsub y hy, by simp; exact fun e => hno (e ▸ hy)⟩)
  have h2 : ((attS l).filter fun y => y != x).length < (attS l).length := by
    rw [List.length_filter_lt_length_iff_exists]
    exact ⟨x, hx, by simp⟩
  omega
theorem legal_run {l : List EvD} {hp o com : List Int} (hl : l.length ≤ 1000) : legalP l hp o com = if begE l hp [] ≠ 0 then (0, 3, []) else if ordOk l o = false then (0, 2, []) else if begE l hp com ≠ 0 then (0, begE l hp com, []) else runR l com o hp 0 := by
  by_cases h0 : rightS l = false ∨ heapOk hp = false
  · have e1 : begE l hp [] = 3 := by rw [beg_nil, if_pos h0]
    have e2 : begE l hp com = 3 := by unfold begE; rw [if_pos h0]
    unfold legalP
    rw [e1, e2]
    simp
  · have e1 : begE l hp [] = 0 := by rw [beg_nil, if_neg h0]
    rw [if_neg (by rw [e1]; simp)]
    unfold legalP
    by_cases hb : begE l hp com = 0
    · rw [if_neg (by rw [hb]; simp)]
      cases ho : ordOk l o with
      | false => simp
      | true =>
        simp only [Bool.true_eq_false, if_false]
        rw [if_neg (by rw [hb]; simp)]
        obtain ⟨hnd, hm⟩ := ord_mem ho
        obtain ⟨N, hN⟩ := right_run (begO_of hl hb).right
        exact walk_run hN com o (attS l) hp 0 hnd hm
    · have h2 : begE l hp com = 2 := by
        unfold begE at hb ⊢
        rw [if_neg h0] at hb ⊢
        split
        · rfl
        · rename_i h; rw [if_neg h] at hb; exact absurd rfl hb
      rw [if_pos hb, if_pos hb, h2]
      cases ordOk l o <;> simp
theorem nodup_snoc {l : List Int} {k : Nat} (hk : k < l.length) : (l.take (k + 1)).Nodup ↔ (l.take k).Nodup ∧ l[k] ∉ l.take k := by
  rw [List.take_succ_eq_append_getElem hk, List.nodup_append]
  constructor
  · rintro ⟨h1, _, h3⟩
    exact ⟨h1, fun h => h3 _ h _ (by simp) rfl⟩
  · rintro ⟨h1, h2⟩
    refine ⟨h1, by simp, fun a ha b hb e => ?_⟩
    simp at hb
    exact h2 (by rw [← hb, ← e]; exact ha)
theorem irow_nil (w : World) : IRow w (.slice none 0 0) [] := ⟨none, 0, rfl, fun h => absurd rfl h⟩
theorem vrow_nil (w : World) : VRow w (.slice none 0 0) [] := ⟨none, 0, rfl, fun h => absurd rfl h⟩

set_option maxRecDepth 100000 in
set_option maxHeartbeats 4000000 in
theorem reach_any {w : World} {v : Value} {o : List Int} (hr : IRow w v o) (hl : o.length ≤ 1000) (hcap : ∀ ao n cap, v = .slice ao n cap → n ≤ cap) :
    Calls Tryz.prog 16 #[v] w fun e w' => e = .returned (.bool (decide o.Nodup)) ∧ Touch w w' [] := by
  obtain ⟨ao, cap, rfl⟩ := hr.form
  have hcc : o.length ≤ cap := hcap _ _ _ rfl
  have HVC : Hid (IRow w (.slice ao o.length cap) o) := hr
  have HIN : Hid (∀ W, Touch w W [] → ∀ k, k ≤ o.length → ∀ x, Calls Tryz.prog 17 #[.slice ao k cap, .int .i64 x] W fun e w' => e = .returned (.bool (decide (x ∈ o.take k))) ∧ W = w') := fun W t k hk x => by
    have h1 := rin_of (SRow.keep (SRow.first hr k hk) t (by simp)) (by simp; omega) x
    have h3 : (o.take k).length = k := by simp; omega
    rw [h3] at h1
    exact h1
  obtain ⟨res, hres⟩ : ∃ r, r = decide o.Nodup := ⟨_, rfl⟩
  rw [← hres]
  have HRES : Hid (res = decide o.Nodup) := hres
  obtain ⟨N, hN⟩ : ∃ N, N = o.length := ⟨_, rfl⟩
  have HN : Hid (N = o.length) := hN
  rw [← hN] at hl hcc HIN ⊢
  clear hr hcap hres hN
  go_enter Tryz.func16, Tryz.ntmps16
  go_wp2_with fail
  go_loopw [3] (fun i wr => ∃ k : Nat, i = .int .i64 k ∧ k ≤ N ∧ (o.take k).Nodup ∧ Touch w wr []) (fun i _ => N - (intOf i).toNat)
  case atStart => exact ⟨0, rfl, Nat.zero_le _, by simp, Touch.refl _ _⟩
  case round =>
    obtain ⟨k, rfl, hk, hnd, t⟩ := hrel
    have HT : Hid (Touch w wr []) := t
    have HND : Hid (o.take k).Nodup := hnd
    clear hnd
    by_cases hlt : k < N
    · have h1 : (k : Int) < N := by omega
      have h0 : (0 : Int) ≤ k := by omega
      have h2 : (k : Int) ≤ cap := by omega
      have hkl : k < o.length := by rw [← HN.out]; exact hlt
      obtain ⟨g, off, hgo, hg, d0⟩ := IRow.one (SRow.keep HVC.out t (by simp)) k hkl
      subst hgo
      have HNX : Hid (decide (o[k] ∈ o.take k) = false → (o.take (k + 1)).Nodup) := fun h => (nodup_snoc hkl).2 ⟨HND.out, by simpa using h⟩
      have HNO : Hid (decide (o[k] ∈ o.take k) = true → res = false) := fun h => by
        rw [HRES.out, decide_eq_false_iff_not]
        intro hq
        have : (o.take (k + 1)).Nodup := hq.sublist (List.take_sublist _ _)
        exact ((nodup_snoc hkl).1 this).2 (by simpa using h)
      have hin := fun W (t : Touch w W []) => HIN.out W t k (by omega) o[k]
      generalize o[k] = x at *
      generalize decide (x ∈ o.take k) = q at *
      have HINN : Hid (∀ W, Touch w W [] → Calls Tryz.prog 17 #[.slice (some ⟨g, off, none⟩) k cap, .int .i64 x] W fun e w' => e = .returned (.bool q) ∧ W = w') := hin
      have HSC : Hid (∀ W, Touch wr W [] → W.cell? ⟨g, off + k, none⟩ = some (.int .i64 x)) := fun W tt => (tt.cell (p := ⟨g, off + k, none⟩) hg (by simp)).trans d0
      clear hin t
      cases q with
      | true =>
        have HR : Hid (res = false) := HNO.out rfl
        clear HNO HNX
        go_wp2_with fail
        go_quiet (first | (go_at_call 17; exact Calls.quiet_of_same ((HINN.out _ (HT.out.drewN _)).mono fun _ _ h => ⟨h.1, h.2.symm⟩)))
        all_goals (
          have HT4 : Hid (Touch w (wr.drewN nq) []) := HT.out.drewN _
          go_wp2
          go_ret
          exact ⟨by rw [HR.out]; rfl, HT4.out⟩)
      | false =>
        have HX2 : Hid (o.take (k + 1)).Nodup := HNX.out rfl
        clear HNO HNX
        go_wp2_with fail
        go_quiet (first | (go_at_call 17; exact Calls.quiet_of_same ((HINN.out _ (HT.out.drewN _)).mono fun _ _ h => ⟨h.1, h.2.symm⟩)))
        all_goals (
          have HT4 : Hid (Touch w (wr.drewN nq) []) := HT.out.drewN _
          go_wp2
          go_roundw
          case rel => exact ⟨k + 1, by go_num, by omega, HX2.out, HT4.out⟩
          case measure => simp [intOf]; omega)
    · obtain rfl : k = N := by omega
      have HR : Hid (res = true) := by
        show _ = _
        rw [HRES.out, decide_eq_true_eq]
        have := HND.out
        rw [HN.out, List.take_length] at this
        exact this
      clear t
      go_wp2
      go_ret
      exact ⟨by rw [HR.out]; rfl, HT.out⟩

set_option maxRecDepth 100000 in
set_option maxHeartbeats 8000000 in
theorem rlegal_any {w : World} {ve vh vo vc : Value} {l : List EvD} {hp o com : List Int} (hr : EvRow w ve l) (hl : l.length ≤ 1000) (hwf : ∀ e ∈ l, e.Wf) (hh : VRow w vh hp) (hhl : hp.length ≤ 1000) (hhw : ∀ x ∈ hp, Wf64 x)
    (ho : IRow w vo o) (hol : o.length ≤ 1000) (hocap : ∀ ao n cap, vo = .slice ao n cap → n ≤ cap) (hc : IRow w vc com) (hcl : com.length ≤ 1000) (hcap : ∀ ao n cap, vc = .slice ao n cap → n ≤ cap) :
    Calls Tryz.prog 8 #[ve, vh, vo, vc] w (LegE w (legalP l hp o com)) := by
  have ha0 := asked_any hr hl hwf hh hhl hhw (irow_nil w) (by simp) (fun a n c e => by simp at e; omega)
  have HA1 : Hid (∀ W, Touch w W [] → Calls Tryz.prog 14 #[ve, vh, vc] W fun e w' => e = .returned (.int .i64 (begE l hp com)) ∧ Touch W w' []) := fun W t => asked_any (SRow.keep hr t (by simp)) hl hwf (SRow.keep hh t (by simp)) hhl hhw (SRow.keep hc t (by simp)) hcl hcap
  have HEA : Hid (∀ W, Touch w W [] → Calls Tryz.prog 16 #[vo] W fun e w' => e = .returned (.bool (decide o.Nodup)) ∧ Touch W w' []) := fun W t => reach_any (SRow.keep ho t (by simp)) hol hocap
  have HRUN : Hid (∀ W, Touch w W [] → begE l hp com = 0 → Calls Tryz.prog 18 #[ve, vh, vo, vc] W (RunE W (runR l com o hp 0))) := fun W t h => by
    have hb := begO_of hl h
    have hk := hb.hok
    unfold heapOk at hk
    simp only [Bool.and_eq_true, List.all_eq_true] at hk
    exact run_any (SRow.keep hr t (by simp)) hl hwf hb.named (SRow.keep hh t (by simp)) hk.1 hb.hpl (SRow.keep ho t (by simp)) hol (SRow.keep hc t (by simp)) hcl
  obtain ⟨ao, cap, rfl⟩ := hr.form
  obtain ⟨bo, bcap, rfl⟩ := hh.form
  obtain ⟨oo, ocap, rfl⟩ := ho.form
  obtain ⟨co, ccap, rfl⟩ := hc.form
  have HAT : Hid (∀ W, Touch w W [] → Calls Tryz.prog 15 #[.slice ao l.length cap] W fun x w' => ∃ v, x = .returned v ∧ intOwn w' W.heap.size v (attS l) ∧ Touch W w' []) := fun W t => rattempts_any (SRow.keep hr t (by simp)) hl
  have HVO : Hid (IRow w (.slice oo o.length ocap) o) := ho
  obtain ⟨res, hres⟩ : ∃ r, r = legalP l hp o com := ⟨_, rfl⟩
  rw [← hres]
  rw [legal_run hl] at hres
  have HRES : Hid _ := hres
  have hal : (attS l).length ≤ 1000 := Nat.le_trans (attS_le l) hl
  obtain ⟨NO, hNO⟩ : ∃ N, N = o.length := ⟨_, rfl⟩
  have HNO : Hid (NO = o.length) := hNO
  rw [← hNO] at HEA HRUN hol ⊢
  clear hr hh hc hocap hcap hwf hhw hres hNO
  generalize l.length = NE at *
  generalize hp.length = NH at *
  generalize com.length = NC at *
  have hor := beg_nil_or l hp
  generalize begE l hp [] = b0 at *
  rcases hor with rfl | rfl
  · have HR : Hid (res = (0, 3, [])) := by show _ = _; rw [HRES.out]; rfl
    clear HRES
    go_enter Tryz.func8, Tryz.ntmps8
    go_wp2_with fail
    refine ha0.mono ?_
    rintro e w1 ⟨rfl, t1⟩
    clear ha0
    go_wp2
    go_ret2
    exact ⟨by rw [HR.out]; rfl, t1⟩
  · have HRES1 : Hid (res = if ordOk l o = false then (0, 2, []) else if begE l hp com ≠ 0 then (0, begE l hp com, []) else runR l com o hp 0) := by show _ = _; rw [HRES.out]; rfl
    clear HRES
    go_enter Tryz.func8, Tryz.ntmps8
    go_wp2_with fail
    refine ha0.mono ?_
    rintro e w1 ⟨rfl, t1⟩
    clear ha0
    have hat := HAT.out w1 t1
    go_wp2_with fail
    refine hat.mono ?_
    rintro e w2 ⟨v2, rfl, hown, t2⟩
    have hir := irow_of hown
    obtain ⟨a2, c2, rfl⟩ := hir.form
    have HIR : Hid (IRow w2 (.slice a2 (attS l).length c2) (attS l)) := hir
    have T2 : Touch w w2 [] := t1.trans t2 (by simp)
    have HT2 : Hid (Touch w w2 []) := T2
    have hea := HEA.out w2 T2
    have HIN : Hid (∀ W, Touch w2 W [] → ∀ x, Calls Tryz.prog 17 #[.slice a2 (attS l).length c2, .int .i64 x] W fun e w' => e = .returned (.bool (decide (x ∈ attS l))) ∧ W = w') := fun W t x => rin_of (SRow.keep hir t (by simp)) (by omega) x
    have HOK : Hid (ordOk l o = (decide (NO = (attS l).length) && (decide o.Nodup && decide (∀ x ∈ o, x ∈ attS l)))) := by
      show _ = _
      unfold ordOk eachP
      rw [← HNO.out]
      congr 1
      rw [Bool.eq_iff_iff]
      simp
    clear hat hown hir t1 t2 T2
    generalize (attS l).length = NA at *
    by_cases hlen : NO = NA
    · subst hlen
      have q1 : ¬ ((NO : Int) ≠ NO) := by simp
      cases hnd : decide o.Nodup with
      | false =>
        rw [hnd] at hea
        have HR : Hid (res = (0, 2, [])) := by show _ = _; rw [HRES1.out, if_pos (by rw [HOK.out, hnd]; simp)]
        clear hnd HOK HRES1
        go_wp2_with fail
        refine hea.mono ?_
        rintro e w3 ⟨rfl, t3⟩
        clear hea
        go_wp2
        go_ret2
        exact ⟨by rw [HR.out]; rfl, HT2.out.trans t3 (by simp)⟩
      | true =>
        rw [hnd] at hea
        have HOK2 : Hid (ordOk l o = decide (∀ x ∈ o, x ∈ attS l)) := by show _ = _; rw [HOK.out, hnd]; simp
        clear hnd HOK
        go_wp2_with fail
        refine hea.mono ?_
        rintro e w3 ⟨rfl, t3⟩
        clear hea
        have HT3 : Hid (Touch w w3 []) := HT2.out.trans t3 (by simp)
        have HIN3 : Hid (∀ x, Calls Tryz.prog 17 #[.slice a2 NO c2, .int .i64 x] w3 fun e w' => e = .returned (.bool (decide (x ∈ attS l))) ∧ w3 = w') := fun x => HIN.out w3 t3 x
        clear t3 HIN HIR
        go_wp2_with fail
        go_loopw [12] (fun i wr => ∃ k : Nat, i = .int .i64 k ∧ k ≤ NO ∧ (∀ x ∈ o.take k, x ∈ attS l) ∧ wr = w3) (fun i _ => NO - (intOf i).toNat)
        case atStart => exact ⟨0, rfl, Nat.zero_le _, by simp, rfl⟩
        case round =>
          obtain ⟨k, rfl, hk, hall, hwr⟩ := hrel
          subst wr
          have HALL : Hid (∀ x ∈ o.take k, x ∈ attS l) := hall
          clear hall
          by_cases hlt : k < NO
          · have h1 : (k : Int) < NO := by omega
            have h0 : (0 : Int) ≤ k := by omega
            have hkl : k < o.length := by rw [← HNO.out]; exact hlt
            obtain ⟨g, off, hgo, hg, d0⟩ := IRow.one (SRow.keep HVO.out HT3.out (by simp)) k hkl
            subst hgo
            have HNX : Hid (decide (o[k] ∈ attS l) = true → ∀ x ∈ o.take (k + 1), x ∈ attS l) := fun h x hx => by
              rw [take_snoc hkl] at hx
              rcases List.mem_append.1 hx with hx | hx
              · exact HALL.out x hx
              · simp at hx; rw [hx]; simpa using h
            have HNO2 : Hid (decide (o[k] ∈ attS l) = false → res = (0, 2, [])) := fun h => by
              rw [HRES1.out, if_pos]
              rw [HOK2.out, decide_eq_false_iff_not]
              intro hq
              have := hq _ (List.getElem_mem hkl)
              simp [this] at h
            have hin := HIN3.out o[k]
            generalize o[k] = x at *
            generalize decide (x ∈ attS l) = q at *
            cases q with
            | true =>
              have HX2 : Hid (∀ x ∈ o.take (k + 1), x ∈ attS l) := HNX.out rfl
              clear HNX HNO2
              go_wp2_with fail
              refine hin.mono ?_
              rintro e w4 ⟨rfl, rfl⟩
              clear hin
              go_wp2
              go_roundw
              case rel => exact ⟨k + 1, by go_num, by omega, HX2.out, by simp⟩
              case measure => simp [intOf]; omega
            | false =>
              have HR : Hid (res = (0, 2, [])) := HNO2.out rfl
              clear HNX HNO2
              go_wp2_with fail
              refine hin.mono ?_
              rintro e w4 ⟨rfl, rfl⟩
              clear hin
              go_wp2
              go_ret2
              exact ⟨by rw [HR.out]; rfl, HT3.out⟩
          · obtain rfl : k = NO := by omega
            have hmem : ordOk l o = true := by
              rw [HOK2.out, decide_eq_true_eq]
              have := HALL.out
              rw [HNO.out, List.take_length] at this
              exact this
            have HRES2 : Hid (res = if begE l hp com ≠ 0 then (0, begE l hp com, []) else runR l com o hp 0) := by show _ = _; rw [HRES1.out, if_neg (by rw [hmem]; simp)]
            have hkk : ¬ (k : Int) < k := by omega
            have ha1 := HA1.out w3 HT3.out
            have hrun := HRUN.out
            clear hmem HRES1 HOK2 HALL HA1 HRUN
            generalize begE l hp com = er at *
            by_cases her : er = 0
            · subst her
              have HR : Hid (res = runR l com o hp 0) := by show _ = _; rw [HRES2.out]; rfl
              rw [← HR.out] at hrun
              have HRUN : Hid _ := hrun
              clear HRES2 hrun
              go_wp2_with fail
              refine ha1.mono ?_
              rintro e w4 ⟨rfl, t4⟩
              clear ha1
              have hrun := HRUN.out w4 (HT3.out.trans t4 (by simp)) (by trivial)
              have HT4 : Hid (Touch w w4 []) := HT3.out.trans t4 (by simp)
              clear t4 HRUN
              obtain ⟨rp, re, rh⟩ := res
              go_wp2_with fail
              refine hrun.mono ?_
              rintro e w5 ⟨t5, v5, rfl, hv5⟩
              clear hrun
              have HT5 : Hid (Touch w w5 []) := HT4.out.trans t5 (by simp)
              clear hv5 t5
              go_wp2
              go_ret2
              exact ⟨rfl, HT5.out⟩
            · have HR : Hid (res = (0, er, [])) := by show _ = _; rw [HRES2.out, if_pos her]
              have her' : (er == 0) = false := by simpa using her
              have her2 : (er != 0) = true := by simp [her]
              clear HRES2 hrun
              go_wp2_with fail
              refine ha1.mono ?_
              rintro e w4 ⟨rfl, t4⟩
              clear ha1
              go_wp2
              go_ret2
              exact ⟨by rw [HR.out]; rfl, HT3.out.trans t4 (by simp)⟩
    · have q1 : ((NO : Int) == NA) = false := by simp; omega
      have q2 : ¬ ((NO : Int) = NA) := by omega
      have HR : Hid (res = (0, 2, [])) := by show _ = _; rw [HRES1.out, if_pos (by rw [HOK.out, decide_eq_false hlen]; rfl)]
      clear HRES1 HOK hea
      go_wp2
      go_ret2
      exact ⟨by rw [HR.out]; rfl, HT2.out⟩

set_option maxRecDepth 100000 in
set_option maxHeartbeats 4000000 in
theorem rheap_any {w : World} {ve vh vo vc : Value} {l : List EvD} {hp o com : List Int} (hr : EvRow w ve l) (hl : l.length ≤ 1000) (hwf : ∀ e ∈ l, e.Wf) (hh : VRow w vh hp) (hhl : hp.length ≤ 1000) (hhw : ∀ x ∈ hp, Wf64 x)
    (ho : IRow w vo o) (hol : o.length ≤ 1000) (hocap : ∀ ao n cap, vo = .slice ao n cap → n ≤ cap) (hc : IRow w vc com) (hcl : com.length ≤ 1000) (hcap : ∀ ao n cap, vc = .slice ao n cap → n ≤ cap) :
    Calls Tryz.prog 10 #[ve, vh, vo, vc] w (HeapE w (legalP l hp o com)) := by
  have hlg := rlegal_any hr hl hwf hh hhl hhw ho hol hocap hc hcl hcap
  have HRUN : Hid (∀ W, Touch w W [] → (legalP l hp o com).2.1 = 0 → Calls Tryz.prog 18 #[ve, vh, vo, vc] W (RunE W (legalP l hp o com))) := fun W t h0 => by
    have hq := legal_run (hp := hp) (o := o) (com := com) hl
    rw [hq] at h0
    have h1 : begE l hp [] = 0 := by
      refine Classical.byContradiction fun hne => ?_
      rw [if_pos hne] at h0; cases h0
    rw [if_neg (by rw [h1]; simp)] at h0 hq
    have h2 : ¬ ordOk l o = false := fun hne => by rw [if_pos hne] at h0; cases h0
    rw [if_neg h2] at h0 hq
    have h : begE l hp com = 0 := by
      refine Classical.byContradiction fun hne => ?_
      rw [if_pos hne] at h0; exact hne h0
    rw [if_neg (by rw [h]; simp)] at hq
    rw [hq]
    have hb := begO_of hl h
    have hk := hb.hok
    unfold heapOk at hk
    simp only [Bool.and_eq_true, List.all_eq_true] at hk
    exact run_any (SRow.keep hr t (by simp)) hl hwf hb.named (SRow.keep hh t (by simp)) hk.1 hb.hpl (SRow.keep ho t (by simp)) hol (SRow.keep hc t (by simp)) hcl
  obtain ⟨aE, cE, rfl⟩ := hr.form
  obtain ⟨aH, cH, rfl⟩ := hh.form
  obtain ⟨aO, cO, rfl⟩ := ho.form
  obtain ⟨aC, cC, rfl⟩ := hc.form
  generalize legalP l hp o com = res at *
  clear hr hh ho hc hocap hcap hwf hhw
  generalize l.length = N1 at *
  generalize hp.length = N2 at *
  generalize o.length = N3 at *
  generalize com.length = N4 at *
  obtain ⟨pl, er, h⟩ := res
  go_enter Tryz.func10, Tryz.ntmps10
  by_cases her : er = 0
  · subst her
    go_wp2_with fail
    refine hlg.mono ?_
    rintro e w1 ⟨rfl, t1⟩
    have hrun := HRUN.out w1 t1 (by trivial)
    have HT1 : Hid (Touch w w1 []) := t1
    clear hlg HRUN t1
    go_wp2_with fail
    refine hrun.mono ?_
    rintro e w2 ⟨t2, v2, rfl, ⟨hne, _⟩ | ⟨_, hv⟩⟩
    · exact absurd rfl hne
    · obtain ⟨a2, c2, rfl⟩ := (vrow_of hv).form
      have HV : Hid (VRow w2 (.slice a2 h.length c2) h) := vrow_of hv
      have HT2 : Hid (Touch w w2 []) := HT1.out.trans t2 (by simp)
      clear hrun hv t2
      simp only
      generalize h.length = N5 at *
      go_wp2
      go_ret2
      exact ⟨HT2.out, .inr ⟨rfl, a2, _, c2, rfl, HV.out⟩⟩
  · have her' : (er == 0) = false := by simpa using her
    have her2 : (er != 0) = true := by simp [her]
    have HE : Hid (er ≠ 0) := her
    go_wp2_with fail
    refine hlg.mono ?_
    rintro e w1 ⟨rfl, t1⟩
    clear hlg
    go_wp2
    go_ret2
    exact ⟨t1, .inl ⟨HE.out, rfl⟩⟩

end Go.Proofs.YtjacclbifeoclaaGreat
