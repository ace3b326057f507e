/-
  package rowlockref09: one BY ITS CONTRACT.
-/
import Derived.Test.YtjacclbifeoclaaOpqRefRd2
import Derived.Test.YtjacclbifeoclaaOpqRefOwn
import Derived.Test.YtjacclbifeoclaaOpqPut
namespace Go.Proofs.Ytjacclbifeoclaa
set_option linter.unusedVariables false
set_option linter.unusedSimpArgs false
open Go.RowKit Go.Maps Go.Shelf
attribute [local go_sem] Oper.semAt_some

theorem ref_same {a b : Int} (ha : rightB a = true) (hb : rightB b = true) : sameB a b = (a == b) := by
  unfold rightB at ha hb
  simp only [decide_eq_true_eq] at ha hb
  unfold sameB
  rw [ha, hb]
theorem rdOk_no {hp : List Int} {j : Nat} {v : Int} (h : ¬ j < hp.length) : rdOk hp ((j : Int), v) = false := by
  unfold rdOk
  have e : ¬ (j : Int) < (hp.length : Int) := by omega
  simp [e]
theorem rdOk_is {hp : List Int} (hr : ∀ x ∈ hp, rightB x = true) {j : Nat} {v : Int} (h : j < hp.length) (hv : rightB v = true) : rdOk hp ((j : Int), v) = (hp[j] == v) := by
  unfold rdOk
  have e : (j : Int) < (hp.length : Int) := by omega
  have hg : hp.getD j 0 = hp[j] := by simp [List.getD_eq_getElem?_getD, h]
  simp only [e, decide_true, Bool.true_and, Int.toNat_natCast, hg]
  exact ref_same (hr _ (List.getElem_mem h)) hv

/-- What one comes to. -/
def OneE (w : World) (B g cap : Nat) (fit : Bool) (hp' : List Int) (e : Ending) (w' : World) : Prop :=
  e = .returned (.bool fit) ∧ Touch w w' [g] ∧ (fit = true → w'.ownsRow B 49 1 (.slice (some ⟨g, 0, none⟩) hp'.length cap) hp'.length (hp'.map (Value.int .u64)))

set_option maxRecDepth 100000 in
set_option maxHeartbeats 8000000 in
theorem one_any {w : World} {ve : Value} {l : List EvD} {hp : List Int} {B g cap : Nat} (hr : EvRow w ve l) (hl : l.length ≤ 1000) (hwf : ∀ e ∈ l, e.Wf) (hn : ∀ e ∈ l, namedS e = true) (hh : valOwn w B (.slice (some ⟨g, 0, none⟩) hp.length cap) hp) (hhr : ∀ x ∈ hp, rightB x = true) (hhl : hp.length ≤ 12) (hge : l ≠ [] → ve.ownBlock ≠ some g) (a : Int) (cnt : Bool) :
    Calls Try.prog 53 #[ve, .slice (some ⟨g, 0, none⟩) hp.length cap, .int .i64 a, .bool cnt] w (OneE w B g cap (fitP l hp a) (if cnt = true then wrAll hp (wrP l a) else hp)) := by
  obtain ⟨ao, capE, rfl⟩ := hr.form
  have hrd := rreads_any hr hl hwf a
  have HWR : Hid (∀ W, Touch w W [] → Calls Try.prog 74 #[.slice ao l.length capE, .int .i64 a] W (AllE W (wrP l a))) := fun W t => rwrites_any (SRow.keep hr t (by simp)) hl hwf a
  have HOW : Hid (∀ W, Touch w W [g] → Calls Try.prog 75 #[.slice ao l.length capE, .int .i64 a] W fun e w' => e = .returned (.bool (ownS (cutS a l))) ∧ Touch W w' []) := fun W t => by
    have := rownb_any (SRow.keepB hr t (fun hl x hx e => by simp at e; subst e; exact hge hl hx)) hl hwf a
    rw [own_same hn] at this
    exact this
  have HRR : Hid (∀ p ∈ rdP l a, 0 ≤ p.1 ∧ p.1 < 12 ∧ rightB p.2 = true) := fun p h => rd_range hn h
  have HRL : Hid ((rdP l a).length ≤ 1000) := Nat.le_trans (rd_len _ _) hl
  have HWRR : Hid (∀ p ∈ wrP l a, 0 ≤ p.1 ∧ p.1 < 12) := fun p h => by have := mem_allK h; exact ⟨this.1, this.2.1⟩
  have HWL : Hid ((wrP l a).length ≤ 1000) := by
    show _ ≤ _
    unfold wrP allK
    exact Nat.le_trans (List.length_filterMap_le _ _) (by simp)
  have HHR : Hid (∀ x ∈ hp, rightB x = true) := hhr
  have HF : Hid (fitP l hp a = ((rdP l a).all (rdOk hp) && ((wrP l a).all (wrOk hp) && ownS (cutS a l)))) := rfl
  have HOWN : Hid (valOwn w B (.slice (some ⟨g, 0, none⟩) hp.length cap) hp) := hh
  have hgl : B ≤ g ∧ g < w.heap.size := hh.lt g rfl
  generalize fitP l hp a = res at *
  generalize rdP l a = rs at *
  generalize hws : wrP l a = ws at *
  generalize ownS (cutS a l) = ow at *
  generalize l.length = M at *
  obtain ⟨N, hN⟩ : ∃ N, N = hp.length := ⟨_, rfl⟩
  have HN : Hid (N = hp.length) := hN
  rw [← hN] at hhl HOWN ⊢
  obtain ⟨hq, hhq⟩ : ∃ hq, hq = if cnt = true then wrAll hp ws else hp := ⟨_, rfl⟩
  rw [← hhq]
  have HHQ : Hid (hq = if cnt = true then wrAll hp ws else hp) := hhq
  clear hr hwf hn hh hhr hN hge hws hhq
  go_enter Try.func53, Try.ntmps53
  go_wp2_with fail
  refine hrd.mono ?_
  rintro e w1 ⟨v1, rfl, hv1, t1⟩
  have hwr := HWR.out w1 t1
  have HV1 : Hid (PRow w1 v1 rs) := prow_of hv1
  have HB1 : Hid (∀ x, v1.ownBlock = some x → w.heap.size ≤ x ∧ x < w1.heap.size) := fun x hx => hv1.lt x hx
  obtain ⟨po, pcap, hf1⟩ := owns_slice hv1
  have HT1 : Hid (Touch w w1 []) := t1
  clear hrd hv1 t1
  subst hf1
  generalize hK : rs.length = K at *
  have HK : Hid (rs.length = K) := hK
  clear hK
  go_wp2_with fail
  refine hwr.mono ?_
  rintro e w2 ⟨v2, B2, rfl, hv2, hB2, t2⟩
  have HV2 : Hid (PRow w2 v2 ws) := prow_of hv2
  have HB2 : Hid (∀ x, v2.ownBlock = some x → w.heap.size ≤ x ∧ x < w2.heap.size) := fun x hx => ⟨Nat.le_trans HT1.out.size (Nat.le_trans hB2 (hv2.lt x hx).1), (hv2.lt x hx).2⟩
  have HV1' : Hid (PRow w2 (.slice po K pcap) rs) := SRow.keep HV1.out t2 (by simp)
  obtain ⟨qo, qcap, hf2⟩ := owns_slice hv2
  have HT2 : Hid (Touch w w2 []) := HT1.out.trans t2 (by simp)
  clear hwr hv2 t2 HV1 HT1 hB2
  subst hf2
  generalize hK2 : ws.length = K2 at *
  have HK2 : Hid (ws.length = K2) := hK2
  have hKl : K ≤ 1000 := by have := HRL.out; have := HK.out; omega
  have hKl2 : K2 ≤ 1000 := by have := HWL.out; have := HK2.out; omega
  have HO2 : Hid (w2.ownsRow B 49 1 (.slice (some ⟨g, 0, none⟩) N cap) N (hp.map (Value.int .u64))) := by
    have := ownsRow_touch HOWN.out HT2.out (by simp)
    rw [← HN.out] at this
    exact this
  clear hK2 HOWN
  have hg2 : g < w2.heap.size := Nat.lt_of_lt_of_le hgl.2 HT2.out.size
  go_wp2_with fail
  go_loopw [11] (fun i wr => ∃ k : Nat, i = .int .i64 k ∧ k ≤ K ∧ (rs.take k).all (rdOk hp) = true ∧ Touch w2 wr []) (fun i _ => K - (intOf i).toNat)
  case atStart => exact ⟨0, rfl, Nat.zero_le _, by simp, Touch.refl _ _⟩
  case round =>
    obtain ⟨k, rfl, hk, hall, t3⟩ := hrel
    have HT3 : Hid (Touch w2 wr []) := t3
    have HALL : Hid _ := hall
    by_cases hlt : k < K
    · have h1 : (k : Int) < K := by omega
      have h0 : (0 : Int) ≤ k := by omega
      have hkl : k < rs.length := by rw [HK.out]; exact hlt
      obtain ⟨gp, off, hgo, hgp, e0, e1⟩ := PRow.two (by have := SRow.keep HV1'.out t3 (by simp); rw [← HK.out] at this; exact this) k hkl
      subst hgo
      obtain ⟨hr0, hr12, hrt⟩ := HRR.out _ (List.getElem_mem hkl)
      have hal := all_take (f := rdOk hp) hkl
      have hfl := all_fail (f := rdOk hp) hkl
      rw [hall, Bool.true_and] at hal
      obtain ⟨⟨t, v⟩, hp0⟩ : ∃ p, p = rs[k] := ⟨_, rfl⟩
      rw [← hp0] at e0 e1 hr0 hr12 hrt hal hfl
      simp only at e0 e1 hr0 hr12 hrt
      obtain ⟨j, rfl⟩ := Int.eq_ofNat_of_zero_le hr0
      by_cases hjN : j < N
      · have q1 : (j : Int) < N := by omega
        have q0 : (0 : Int) ≤ j := by omega
        have q2 : decide ((N : Int) ≤ j) = false := decide_eq_false (by omega)
        have hjl : j < hp.length := by rw [← HN.out]; exact hjN
        have hok := rdOk_is HHR.out hjl hrt
        have m0 : wr.cell? ⟨g, j, none⟩ = some (.int .u64 hp[j]) := by
          have := (ownsRow_touch HO2.out t3 (by simp)).cells (g := g) rfl j (.int .u64 hp[j]) (by rw [List.getElem?_map, List.getElem?_eq_getElem hjl]; rfl)
          rw [Addr.add_lit] at this
          simpa using this
        rw [hok] at hfl hal
        generalize hp[j] = x at *
        by_cases hxv : x = v
        · subst hxv
          have HAL : Hid ((rs.take (k + 1)).all (rdOk hp) = true) := by show _ = _; rw [hal]; simp
          clear hall t3 hp0 hfl hal hok hrt hr0 hr12 hjl
          go_wp2_with fail
          go_quiet (fail)
          go_wp2
          go_roundw
          case rel => exact ⟨k + 1, by go_num, by omega, HAL.out, HT3.out.drewN _⟩
          case measure => simp [intOf]; omega
        · have hb : (x == v) = false := by simpa using hxv
          have hb2 : (x != v) = true := by simp [hxv]
          have hb3 : decide (x = v) = false := decide_eq_false hxv
          have HFR : Hid (rs.all (rdOk hp) = false) := hfl hb
          clear hall t3 hp0 hfl hal hok hrt hr0 hr12 hjl
          go_wp2_with fail
          go_quiet (fail)
          go_wp2
          go_ret
          exact ⟨by rw [HF.out, HFR.out]; rfl, ((HT2.out.trans HT3.out (by simp)).drewN _).mono (by simp), by rw [HF.out, HFR.out]; intro h; cases h⟩
      · have q1 : (N : Int) ≤ j := by omega
        have q0 : (0 : Int) ≤ j := by omega
        have q2 : decide ((N : Int) ≤ j) = true := decide_eq_true q1
        have hok : rdOk hp ((j : Int), v) = false := rdOk_no (by rw [← HN.out]; exact hjN)
        have HFR : Hid (rs.all (rdOk hp) = false) := hfl hok
        clear hall t3 hp0 hfl hal hok hrt hr0 hr12
        go_wp2_with fail
        go_quiet (fail)
        go_wp2
        go_ret
        exact ⟨by rw [HF.out, HFR.out]; rfl, ((HT2.out.trans HT3.out (by simp)).drewN _).mono (by simp), by rw [HF.out, HFR.out]; intro h; cases h⟩
    · obtain rfl : k = K := by omega
      have hallr : rs.all (rdOk hp) = true := by rw [← HK.out, List.take_length] at hall; exact hall
      have HF2 : Hid (res = (ws.all (wrOk hp) && ow)) := by show _ = _; rw [HF.out, hallr, Bool.true_and]
      obtain ⟨w3, hw3⟩ : ∃ w3, w3 = wr := ⟨_, rfl⟩
      rw [← hw3] at HT3 ⊢
      have hkk : ¬ (k : Int) < k := by omega
      clear hall hallr t3 HF hw3 hlt HALL HV1'
      have HV3 : Hid (PRow w3 (.slice qo K2 qcap) ws) := SRow.keep HV2.out HT3.out (by simp)
      go_wp2_with fail
      go_loopw [12] (fun i wr => ∃ k : Nat, i = .int .i64 k ∧ k ≤ K2 ∧ (ws.take k).all (wrOk hp) = true ∧ wr = w3) (fun i _ => K2 - (intOf i).toNat)
      case atStart => exact ⟨0, rfl, Nat.zero_le _, by simp, rfl⟩
      case round =>
        obtain ⟨k4, rfl, hk4, hall, hwr⟩ := hrel
        subst wr
        by_cases hlt : k4 < K2
        · have h1 : (k4 : Int) < K2 := by omega
          have h0 : (0 : Int) ≤ k4 := by omega
          have hkl : k4 < ws.length := by rw [HK2.out]; exact hlt
          obtain ⟨gp, off, hgo, hgp, e0, e1⟩ := PRow.two (by have := HV3.out; rw [← HK2.out] at this; exact this) k4 hkl
          subst hgo
          have hal := all_take (f := wrOk hp) hkl
          have hfl := all_fail (f := wrOk hp) hkl
          rw [hall, Bool.true_and] at hal
          obtain ⟨⟨t, v⟩, hp0⟩ : ∃ p, p = ws[k4] := ⟨_, rfl⟩
          rw [← hp0] at e0 e1 hal hfl
          simp only at e0 e1
          by_cases htN : t < N
          · have q1 : ¬ (N : Int) ≤ t := by omega
            have hok : wrOk hp (t, v) = true := by unfold wrOk; simp only [decide_eq_true_eq]; rw [← HN.out]; exact htN
            have HAR : Hid _ := hal.trans hok
            clear hall hp0 hfl hal hok
            go_wp2
            go_roundw
            case rel => exact ⟨k4 + 1, by go_num, by omega, HAR.out, by simp⟩
            case measure => simp [intOf]; omega
          · have q1 : (N : Int) ≤ t := by omega
            have hok : wrOk hp (t, v) = false := by unfold wrOk; simp only [decide_eq_false_iff_not]; rw [← HN.out]; exact htN
            have HFR : Hid (ws.all (wrOk hp) = false) := hfl hok
            clear hall hp0 hfl hal hok
            go_wp2
            go_ret
            exact ⟨by rw [HF2.out, HFR.out]; rfl, (HT2.out.trans HT3.out (by simp)).mono (by simp), by rw [HF2.out, HFR.out]; intro h; cases h⟩
        · obtain rfl : k4 = K2 := by omega
          have hallw : ws.all (wrOk hp) = true := by rw [← HK2.out, List.take_length] at hall; exact hall
          have HF3 : Hid (res = ow) := by show _ = _; rw [HF2.out, hallw, Bool.true_and]
          have HALW : Hid (∀ p ∈ ws, 0 ≤ p.1 ∧ p.1 < (N : Int)) := fun p hp' => ⟨(HWRR.out p hp').1, by have := (List.all_eq_true.1 hallw) p hp'; simp only [wrOk, decide_eq_true_eq] at this; rw [HN.out]; exact this⟩
          have HO3 : Hid (w3.ownsRow B 49 1 (.slice (some ⟨g, 0, none⟩) N cap) N (hp.map (Value.int .u64))) := ownsRow_touch HO2.out HT3.out (by simp)
          have HQG : Hid (∀ x off, qo = some ⟨x, off, none⟩ → x ≠ g) := fun x off hx e => by
            have := (HB2.out x (by rw [hx]; rfl)).1
            omega
          have hk44 : ¬ (k4 : Int) < k4 := by omega
          clear hall hallw hlt HF2
          cases cnt with
          | false =>
            have how := HOW.out w3 ((HT2.out.trans HT3.out (by simp)).mono (by simp))
            go_wp2_with fail
            go_loopw [13] (fun i wr => i = .int .i64 0 ∧ wr = w3) (fun _ _ => 0)
            case atStart => exact ⟨rfl, rfl⟩
            case round =>
              obtain ⟨rfl, hwr⟩ := hrel
              subst wr
              by_cases hz : (0 : Int) < k4
              · go_wp2_with fail
                refine how.mono ?_
                rintro e w6 ⟨rfl, t6⟩
                clear how
                go_wp2
                go_ret
                refine ⟨by rw [HF3.out]; rfl, ((HT2.out.trans HT3.out (by simp)).trans t6 (by simp)).mono (by simp), fun _ => ?_⟩
                have := ownsRow_touch HO3.out t6 (by simp)
                have hh2 : hq = hp := by rw [HHQ.out]; simp
                rw [HN.out] at this
                rw [hh2]
                exact this
              · go_wp2_with fail
                refine how.mono ?_
                rintro e w6 ⟨rfl, t6⟩
                clear how
                go_wp2
                go_ret
                refine ⟨by rw [HF3.out]; rfl, ((HT2.out.trans HT3.out (by simp)).trans t6 (by simp)).mono (by simp), fun _ => ?_⟩
                have := ownsRow_touch HO3.out t6 (by simp)
                have hh2 : hq = hp := by rw [HHQ.out]; simp
                rw [HN.out] at this
                rw [hh2]
                exact this
          | true =>
            go_wp2_with fail
            go_loopw [13] (fun i wr => ∃ k : Nat, i = .int .i64 k ∧ k ≤ k4 ∧ wr.ownsRow B 49 1 (.slice (some ⟨g, 0, none⟩) N cap) N ((wrAll hp (ws.take k)).map (Value.int .u64)) ∧ Touch w3 wr [g]) (fun i _ => k4 - (intOf i).toNat)
            case atStart => exact ⟨0, rfl, Nat.zero_le _, HO3.out, Touch.refl _ _⟩
            case round =>
              obtain ⟨j5, rfl, hj5, hrow, t5⟩ := hrel
              by_cases hlt : j5 < k4
              · have h1 : (j5 : Int) < k4 := by omega
                have h0 : (0 : Int) ≤ j5 := by omega
                have hkl : j5 < ws.length := by rw [HK2.out]; exact hlt
                obtain ⟨gp, off, hgo, hgp, e0, e1⟩ := PRow.two (by have := HV3.out; rw [← HK2.out] at this; exact this) j5 hkl
                have hgne := HQG.out gp off hgo
                subst hgo
                have f0 := (t5.cell (p := ⟨gp, off + j5 * 2, none⟩) hgp (by simpa using hgne)).trans e0
                have f1 := (t5.cell (p := ⟨gp, off + j5 * 2 + 1, none⟩) hgp (by simpa using hgne)).trans e1
                obtain ⟨hr0, hrN⟩ := HALW.out _ (List.getElem_mem hkl)
                have hsn := wrAll_snoc (hp := hp) hkl
                obtain ⟨⟨t, v⟩, hp0⟩ : ∃ p, p = ws[j5] := ⟨_, rfl⟩
                rw [← hp0] at f0 f1 hr0 hrN hsn
                simp only at f0 f1 hr0 hrN hsn
                obtain ⟨j, rfl⟩ := Int.eq_ofNat_of_zero_le hr0
                have hlen : (wrAll hp (ws.take j5)).length = N := by rw [wrAll_len, HN.out]
                have hjN : j < N := by omega
                have hfz : wr.frozen? ⟨g, j, none⟩ = false := by
                  rcases hrow.2 with ⟨e, _⟩ | ⟨g', cap', cur, e, hB, hg, _⟩
                  · simp at e
                  · simp only [Value.slice.injEq, Option.some.injEq, Addr.mk.injEq] at e
                    obtain ⟨⟨rfl, _⟩, _, rfl⟩ := e
                    simp [World.frozen?, hg]
                obtain ⟨u, hcj⟩ : ∃ u, wr.cell? ⟨g, j, none⟩ = some (.int .u64 u) := by
                  refine ⟨(wrAll hp (ws.take j5))[j]'(by omega), ?_⟩
                  have := hrow.cells (g := g) rfl j (.int .u64 ((wrAll hp (ws.take j5))[j]'(by omega))) (by rw [List.getElem?_map, List.getElem?_eq_getElem (by omega)]; rfl)
                  rw [Addr.add_lit] at this
                  simpa using this
                have HR2 : Hid ((wr.setCell ⟨g, j, none⟩ (.int .u64 v)).ownsRow B 49 1 (.slice (some ⟨g, 0, none⟩) N cap) N ((wrAll hp (ws.take (j5 + 1))).map (Value.int .u64))) := by
                  have h4 := val_set (ls := wrAll hp (ws.take j5)) (by rw [hlen]; exact hrow) j v
                  rw [hlen] at h4
                  show World.ownsRow _ _ _ _ _ _ _
                  rw [hsn]
                  simpa using h4
                have HT6 : Hid (Touch w3 (wr.setCell ⟨g, j, none⟩ (.int .u64 v)) [g]) := t5.setCell (.inl (by simp)) _
                have HSC : Hid (∀ W, Touch wr W [g] → W.cell? ⟨gp, off + j5 * 2, none⟩ = some (.int .i64 (j : Int)) ∧ W.cell? ⟨gp, off + j5 * 2 + 1, none⟩ = some (.int .u64 v)) := fun W tt =>
                  ⟨(tt.cell (p := ⟨gp, off + j5 * 2, none⟩) (Nat.lt_of_lt_of_le hgp t5.size) (by simpa using hgne)).trans f0, (tt.cell (p := ⟨gp, off + j5 * 2 + 1, none⟩) (Nat.lt_of_lt_of_le hgp t5.size) (by simpa using hgne)).trans f1⟩
                have q1 : (j : Int) < N := by omega
                have q0 : (0 : Int) ≤ j := by omega
                have hd : Touch wr wr.drew [g] := (Touch.refl wr [g]).drew
                clear hrow t5 e0 e1 hp0 hsn hlen hr0 hrN f0 f1
                go_wp2_with fail
                go_region_held3 (fun W => W.cell? ⟨gp, off + j5 * 2, none⟩ = some (.int .i64 (j : Int)) ∧ W.cell? ⟨gp, off + j5 * 2 + 1, none⟩ = some (.int .u64 v)) ((first | exact HSC.out _ hd | exact HSC.out _ (hd.setCell (.inl (by simp)) _) | exact HSC.out _ (((Touch.refl wr [g]).setCell (.inl (by simp)) _).drew))) (fail)
                go_wp2
                go_roundw
                case rel => exact ⟨j5 + 1, by go_num, by omega, HR2.out, HT6.out.drew⟩
                case measure => simp [intOf]; omega
              · obtain rfl : j5 = k4 := by omega
                have how := HOW.out wr (((HT2.out.trans HT3.out (by simp)).mono (by simp)).trans t5 (fun x hx => .inl hx))
                have HR3 : Hid (wr.ownsRow B 49 1 (.slice (some ⟨g, 0, none⟩) N cap) N ((wrAll hp ws).map (Value.int .u64))) := by
                  rw [← HK2.out, List.take_length] at hrow
                  exact hrow
                have HT7 : Hid (Touch w wr [g]) := ((HT2.out.trans HT3.out (by simp)).mono (by simp)).trans t5 (fun x hx => .inl hx)
                clear hrow t5 hlt
                go_wp2_with fail
                refine how.mono ?_
                rintro e w6 ⟨rfl, t6⟩
                clear how
                go_wp2
                go_ret
                refine ⟨by rw [HF3.out]; rfl, HT7.out.trans t6 (by simp), fun _ => ?_⟩
                have := ownsRow_touch HR3.out t6 (by simp)
                have hh2 : hq = wrAll hp ws := by rw [HHQ.out]; simp
                rw [HN.out, ← wrAll_len ws hp] at this
                rw [hh2]
                exact this

end Go.Proofs.Ytjacclbifeoclaa
