/-
  package opaque: fits, behind BY THEIR CONTRACTS.
-/
import Derived.Test.YtjacclbifeoclaaOpqOver
namespace Go.Proofs.Ytjacclbifeoclaa
set_option linter.unusedVariables false
set_option linter.unusedSimpArgs false
open Go.RowKit Go.Maps
attribute [local go_sem] Oper.semAt_some

/-! ### Plain data -/
def rdP (l : List EvD) (a : Int) : List (Int × Int) := readsS (cutS a l) (cutS a l).length
def wrP (l : List EvD) (a : Int) : List (Int × Int) := allK (getF (noteAll [f0] (cutS a l))) 12
def rdOk (hp : List Int) (p : Int × Int) : Bool := decide (p.1 < (hp.length : Int)) && sameB (hp.getD p.1.toNat 0) p.2
def wrOk (hp : List Int) (p : Int × Int) : Bool := decide (p.1 < (hp.length : Int))
def fitP (l : List EvD) (hp : List Int) (a : Int) : Bool := (rdP l a).all (rdOk hp) && ((wrP l a).all (wrOk hp) && ownS (cutS a l))
def wrAll (hp : List Int) (ps : List (Int × Int)) : List Int := ps.foldl (fun h p => h.set p.1.toNat p.2) hp
def behP (l : List EvD) (com hp : List Int) (a : Int) : List Int := if a ∈ com then wrAll hp (wrP l a) else hp
theorem wrAll_len (ps : List (Int × Int)) : ∀ hp, (wrAll hp ps).length = hp.length := by
  induction ps with
  | nil => intro hp; rfl
  | cons p ps ih => intro hp; show (wrAll (hp.set p.1.toNat p.2) ps).length = _; rw [ih]; simp
theorem wrAll_snoc {hp : List Int} {ps : List (Int × Int)} {k : Nat} (hk : k < ps.length) : wrAll hp (ps.take (k + 1)) = (wrAll hp (ps.take k)).set ps[k].1.toNat ps[k].2 := by
  unfold wrAll
  rw [take_snoc hk, List.foldl_append]
  rfl
theorem behP_len (l : List EvD) (com hp : List Int) (a : Int) : (behP l com hp a).length = hp.length := by
  unfold behP
  split
  · exact wrAll_len _ _
  · rfl
theorem mem_reads {c : List EvD} {p : Int × Int} : ∀ {m : Nat}, p ∈ readsS c m → ∃ e ∈ c, e.k = 2 ∧ p = (e.t, e.v)
  | 0, h => by simp [readsS] at h
  | m + 1, h => by
    by_cases hm : m < c.length
    · rw [readsS_step hm] at h
      split at h
      · rename_i hk
        rcases List.mem_append.1 h with h | h
        · exact mem_reads h
        · exact ⟨c[m], List.getElem_mem hm, hk.1, by simpa using h⟩
      · exact mem_reads h
    · have : readsS c (m + 1) = readsS c m := by
        unfold readsS
        rw [List.getElem?_eq_none (by omega)]
        cases m <;> rfl
      rw [this] at h
      exact mem_reads h
theorem mem_allK {G : Int → Option Int} {k : Nat} {p : Int × Int} (h : p ∈ allK G k) : 0 ≤ p.1 ∧ p.1 < (k : Int) ∧ G p.1 = some p.2 := by
  unfold allK at h
  obtain ⟨i, hi, h1⟩ := List.mem_filterMap.1 h
  rw [List.mem_range] at hi
  cases hq : G i with
  | none => rw [hq] at h1; cases h1
  | some v =>
    rw [hq] at h1
    simp at h1
    subst h1
    exact ⟨by simp, by simp; omega, hq⟩
theorem named_range {e : EvD} (h : namedS e = true) : 0 ≤ e.t ∧ e.t < 12 ∧ rightB e.v = true := by
  unfold namedS at h
  simp only [Bool.and_eq_true, decide_eq_true_eq] at h
  exact ⟨h.2.1.1, h.2.1.2, h.2.2⟩
theorem rd_range {l : List EvD} (hn : ∀ e ∈ l, namedS e = true) {a : Int} {p : Int × Int} (h : p ∈ rdP l a) : 0 ≤ p.1 ∧ p.1 < 12 ∧ rightB p.2 = true := by
  obtain ⟨e, he, _, rfl⟩ := mem_reads h
  exact named_range (hn e (List.mem_filter.1 he).1)
theorem all_take {α : Type} {f : α → Bool} {l : List α} {k : Nat} (hk : k < l.length) : (l.take (k + 1)).all f = ((l.take k).all f && f l[k]) := by
  rw [take_snoc hk, List.all_append]
  simp
theorem all_fail {α : Type} {f : α → Bool} {l : List α} {k : Nat} (hk : k < l.length) (h : f l[k] = false) : l.all f = false := by
  rw [List.all_eq_false]
  exact ⟨l[k], List.getElem_mem hk, by rw [h]; simp⟩

theorem cell_new (w : World) (cs : Array Value) (t : TypeId) (k : Nat) : (w.alloc (.cells cs t)).cell? ⟨w.heap.size, k, none⟩ = cs[k]? := by
  have h := heap_alloc_new w (.cells cs t)
  simp only [World.cell?, h]
  rfl
abbrev PRow := SRow 2 pairC
theorem PRow.two {w : World} {ao : Option Addr} {cap : Nat} {l : List (Int × Int)} (h : PRow w (.slice ao l.length cap) l) (k : Nat) (hk : k < l.length) :
    ∃ g off, ao = some ⟨g, off, none⟩ ∧ g < w.heap.size ∧ w.cell? ⟨g, off + k * 2, none⟩ = some (.int .i64 l[k].1) ∧ w.cell? ⟨g, off + k * 2 + 1, none⟩ = some (.int .u64 l[k].2) := by
  obtain ⟨g, off, e, hlt, hc⟩ := h.at k hk
  exact ⟨g, off, e, hlt, by simpa [pairC] using hc 0 (by omega), by simpa [pairC] using hc 1 (by omega)⟩
theorem prow_of {w : World} {B : Nat} {v : Value} {l : List (Int × Int)} (h : pairRow w B v l) : PRow w v l := srow_of (cells := pairC) (n := 2) (fun _ => rfl) h

set_option maxRecDepth 100000 in
set_option maxHeartbeats 4000000 in
theorem fits_any {w : World} {rb : Nat} {ve vc vl vh : Value} {l : List EvD} {hp : List Int} (hR : RowAt w rb ve vc vl vh) (hr : EvRow w ve l) (hl : l.length ≤ 1000) (hwf : ∀ e ∈ l, e.Wf) (hn : ∀ e ∈ l, namedS e = true) (hh : VRow w vh hp) (hhl : hp.length ≤ 12) (a : Int) :
    Calls Try.prog 67 #[ptr rb, .int .i64 a] w fun e w' => e = .returned (.bool (fitP l hp a)) ∧ Touch w w' [] := by
  obtain ⟨ao, cap, rfl⟩ := hr.form
  obtain ⟨bo, capb, rfl⟩ := hh.form
  have hrd := reads_any hr hl hwf a
  have HWR : Hid (∀ W, Touch w W [] → Calls Try.prog 88 #[.slice ao l.length cap, .int .i64 a] W (AllE W (wrP l a))) := fun W t => writes_any (SRow.keep hr t (by simp)) hl hwf a
  have HOW : Hid (∀ W, Touch w W [] → Calls Try.prog 89 #[.slice ao l.length cap, .int .i64 a] W fun e w' => e = .returned (.bool (ownS (cutS a l))) ∧ Touch W w' []) := fun W t => own_any (SRow.keep hr t (by simp)) hl hwf a
  have HRW : Hid (∀ W, Touch w W [] → RowAt W rb (.slice ao l.length cap) vc vl (.slice bo hp.length capb)) := fun W t => hR.touch t (by simp)
  have HHW : Hid (∀ W, Touch w W [] → VRow W (.slice bo hp.length capb) hp) := fun W t => SRow.keep hh t (by simp)
  have HRR : Hid (∀ p ∈ rdP l a, 0 ≤ p.1 ∧ p.1 < 12 ∧ rightB p.2 = true) := fun p h => rd_range hn h
  have HRL : Hid ((rdP l a).length ≤ 1000) := Nat.le_trans (readsS_le _ _) (Nat.le_trans (cutS_le a l) hl)
  change Calls _ _ _ _ (PairsPost w (rdP l a)) at hrd
  obtain ⟨c0, c1, c2, c3⟩ := hR.cells
  have HF : Hid (fitP l hp a = ((rdP l a).all (rdOk hp) && ((wrP l a).all (wrOk hp) && ownS (cutS a l)))) := rfl
  have HWRR : Hid (∀ p ∈ wrP l a, 0 ≤ p.1 ∧ p.1 < 12) := fun p h => by have := mem_allK h; exact ⟨this.1, this.2.1⟩
  have HWL : Hid ((wrP l a).length ≤ 1000) := by
    show _ ≤ _
    unfold wrP allK
    exact Nat.le_trans (List.length_filterMap_le _ _) (by simp)
  generalize fitP l hp a = res at *
  generalize rdP l a = rs at *
  generalize wrP l a = ws at *
  generalize ownS (cutS a l) = ow at *
  generalize l.length = M at *
  obtain ⟨N, hN⟩ : ∃ N, N = hp.length := ⟨_, rfl⟩
  have HN : Hid _ := hN
  rw [← hN] at hhl HRW c3
  clear hR hr hl hwf hn hh hN c1 c2
  go_enter Try.func67, Try.ntmps67
  go_wp2_with fail
  refine hrd.mono ?_
  rintro e w1 ⟨v1, rfl, hv1, t1⟩
  obtain ⟨po, pcap, rfl⟩ := owns_slice hv1
  have HP1 : Hid (PRow w1 (.slice po rs.length pcap) rs) := prow_of hv1
  have HT1 : Hid _ := t1
  obtain ⟨K, hK⟩ : ∃ K, K = rs.length := ⟨_, rfl⟩
  have HK : Hid _ := hK
  have hKl : K ≤ 1000 := by rw [hK]; exact HRL.out
  rw [← hK]
  clear hrd hv1 t1 c0 c3 hK
  go_wp2_with fail
  go_loopw [16] (fun i wr => ∃ k : Nat, i = .int .i64 k ∧ k ≤ K ∧ (rs.take k).all (rdOk hp) = true ∧ Touch w1 wr []) (fun i _ => K - (intOf i).toNat)
  case atStart => exact ⟨0, rfl, Nat.zero_le _, by simp, Touch.refl _ _⟩
  case round =>
    obtain ⟨k, rfl, hk, hall, t2⟩ := hrel
    have HT2 : Hid (Touch w wr []) := HT1.out.trans t2 (by simp)
    by_cases hlt : k < K
    · have h1 : (k : Int) < K := by omega
      have h0 : (0 : Int) ≤ k := by omega
      have hkl : k < rs.length := by rw [← HK.out]; exact hlt
      obtain ⟨g, off, rfl, hg, d0, d1⟩ := PRow.two HP1.out k hkl
      have e0 := (t2.cell (p := ⟨g, _, none⟩) hg (by simp)).trans d0
      have e1 := (t2.cell (p := ⟨g, _, none⟩) hg (by simp)).trans d1
      obtain ⟨hr0, hr12, hrt⟩ := HRR.out _ (List.getElem_mem hkl)
      have hal := all_take (f := rdOk hp) hkl
      have hfl := all_fail (f := rdOk hp) hkl
      rw [hall, Bool.true_and] at hal
      obtain ⟨⟨t, v⟩, hp0⟩ : ∃ p, p = rs[k] := ⟨_, rfl⟩
      rw [← hp0] at e0 e1 hr0 hr12 hrt hal hfl
      simp only at e0 e1 hr0 hr12 hrt
      obtain ⟨j, rfl⟩ := Int.eq_ofNat_of_zero_le hr0
      have T3 : Touch w (wr.alloc (.cells #[.int .i64 (j : Int), .int .u64 v] 113)) [] := HT2.out.alloc _
      obtain ⟨c0, c1, c2, c3⟩ := (HRW.out _ T3).cells
      have hbx0 : (wr.alloc (.cells #[.int .i64 (j : Int), .int .u64 v] 113)).cell? ⟨wr.heap.size, 0, none⟩ = some (.int .i64 (j : Int)) := cell_new _ _ _ _
      have hbx1 : (wr.alloc (.cells #[.int .i64 (j : Int), .int .u64 v] 113)).cell? ⟨wr.heap.size, 1, none⟩ = some (.int .u64 v) := cell_new _ _ _ _
      have HFL : Hid _ := hfl
      have HAL : Hid _ := hal
      have HT3 : Hid _ := T3
      have HT4 : Hid (Touch w1 (wr.alloc (.cells #[.int .i64 (j : Int), .int .u64 v] 113)) []) := t2.alloc _
      by_cases hjN : j < N
      · have q1 : (j : Int) < N := by omega
        have q0 : (0 : Int) ≤ j := by omega
        have q2 : decide ((N : Int) ≤ j) = false := decide_eq_false (by omega)
        have hjl : j < hp.length := by rw [← HN.out]; exact hjN
        have hhw := HHW.out _ T3
        obtain ⟨g2, off2, rfl, hg2, m0⟩ := VRow.one hhw j hjl
        have hsm := same_any hp[j] v
        have hok : rdOk hp ((j : Int), v) = (((ofB hp[j].toNat : Nat) : Int) == (ofB v.toNat : Nat)) := by
          unfold rdOk sameB
          have e : (j : Int) < (hp.length : Int) := by omega
          simp only [e, decide_true, Bool.true_and, Int.toNat_natCast, List.getD_eq_getElem?_getD, List.getElem?_eq_getElem hjl, Option.getD_some]
        rw [hok] at HFL HAL
        generalize (((ofB hp[j].toNat : Nat) : Int) == (ofB v.toNat : Nat)) = z at *
        generalize hp[j] = x at *
        clear hall d0 d1 hp0 hfl hal T3 c1 c2 hhw hok hrt t2 hr0 hr12 hjl
        cases z with
        | true =>
          go_wp2_with fail
          go_quiet (first | (go_at_call 87; exact Calls.quiet_of_same ((hsm _).mono fun _ _ h => ⟨h.1, h.2.symm⟩)))
          clear hsm
          go_wp2
          go_roundw
          case rel => exact ⟨k + 1, by go_num, by omega, by rw [HAL.out], HT4.out.drewN _⟩
          case measure => simp [intOf]; omega
        | false =>
          have HFR : Hid _ := HFL.out rfl
          clear HFL
          go_wp2_with fail
          go_quiet (first | (go_at_call 87; exact Calls.quiet_of_same ((hsm _).mono fun _ _ h => ⟨h.1, h.2.symm⟩)))
          clear hsm
          go_wp2
          go_ret
          exact ⟨by rw [HF.out, HFR.out]; rfl, HT3.out.drewN _⟩
      · have q1 : (N : Int) ≤ j := by omega
        have q0 : (0 : Int) ≤ j := by omega
        have q2 : decide ((N : Int) ≤ j) = true := decide_eq_true q1
        have hok : rdOk hp ((j : Int), v) = false := by
          unfold rdOk
          have e : ¬ (j : Int) < (hp.length : Int) := by rw [← HN.out]; omega
          simp [e]
        have HFR : Hid _ := HFL.out hok
        clear hall d0 d1 hp0 hfl hal T3 c1 c2 hok hrt t2 hr0 hr12
        go_wp2_with fail
        go_quiet (fail)
        go_wp2
        go_ret
        exact ⟨by rw [HF.out, HFR.out]; rfl, HT3.out.drewN _⟩
    · obtain rfl : k = K := by omega
      have hallr : rs.all (rdOk hp) = true := by rw [HK.out, List.take_length] at hall; exact hall
      have hwr := HWR.out wr HT2.out
      obtain ⟨c0, c1, c2, c3⟩ := (HRW.out _ HT2.out).cells
      have HF2 : Hid (res = (ws.all (wrOk hp) && ow)) := by show _ = _; rw [HF.out, hallr, Bool.true_and]
      clear hall hallr t2 HF HP1 c1 c2 c3 hlt
      obtain ⟨w3, hw3⟩ : ∃ w3, w3 = wr := ⟨_, rfl⟩
      rw [← hw3] at hwr c0 HT2 ⊢
      clear hw3
      go_wp2_with fail
      refine hwr.mono ?_
      rintro e w4 ⟨v4, B4, rfl, hv4, hB4, t4⟩
      obtain ⟨po4, pcap4, rfl⟩ := owns_slice hv4
      have HP4 : Hid (PRow w4 (.slice po4 ws.length pcap4) ws) := prow_of hv4
      have HT4 : Hid (Touch w w4 []) := HT2.out.trans t4 (by simp)
      obtain ⟨K4, hK4⟩ : ∃ K, K = ws.length := ⟨_, rfl⟩
      have HK4 : Hid _ := hK4
      have hKl4 : K4 ≤ 1000 := by rw [hK4]; exact HWL.out
      rw [← hK4]
      clear hwr hv4 t4 c0 hK4 HT2 hB4
      go_wp2_with fail
      go_loopw [50] (fun i wr => ∃ k : Nat, i = .int .i64 k ∧ k ≤ K4 ∧ (ws.take k).all (wrOk hp) = true ∧ Touch w4 wr []) (fun i _ => K4 - (intOf i).toNat)
      case atStart => exact ⟨0, rfl, Nat.zero_le _, by simp, Touch.refl _ _⟩
      case round =>
        obtain ⟨k4, rfl, hk4, hall, t5⟩ := hrel
        have HT5 : Hid (Touch w wr []) := HT4.out.trans t5 (by simp)
        by_cases hlt : k4 < K4
        · have h1 : (k4 : Int) < K4 := by omega
          have h0 : (0 : Int) ≤ k4 := by omega
          have hkl : k4 < ws.length := by rw [← HK4.out]; exact hlt
          obtain ⟨g, off, rfl, hg, d0, d1⟩ := PRow.two HP4.out k4 hkl
          have e0 := (t5.cell (p := ⟨g, _, none⟩) hg (by simp)).trans d0
          have e1 := (t5.cell (p := ⟨g, _, none⟩) hg (by simp)).trans d1
          have hal := all_take (f := wrOk hp) hkl
          have hfl := all_fail (f := wrOk hp) hkl
          rw [hall, Bool.true_and] at hal
          obtain ⟨⟨t, v⟩, hp0⟩ : ∃ p, p = ws[k4] := ⟨_, rfl⟩
          rw [← hp0] at e0 e1 hal hfl
          simp only at e0 e1
          have T3 : Touch w (wr.alloc (.cells #[.int .i64 t, .int .u64 v] 113)) [] := HT5.out.alloc _
          obtain ⟨c0, c1, c2, c3⟩ := (HRW.out _ T3).cells
          have hbx0 : (wr.alloc (.cells #[.int .i64 t, .int .u64 v] 113)).cell? ⟨wr.heap.size, 0, none⟩ = some (.int .i64 t) := cell_new _ _ _ _
          have HFL : Hid _ := hfl
          have HAL : Hid _ := hal
          have HT3 : Hid _ := T3
          have HT6 : Hid (Touch w4 (wr.alloc (.cells #[.int .i64 t, .int .u64 v] 113)) []) := t5.alloc _
          by_cases htN : t < N
          · have q1 : ¬ (N : Int) ≤ t := by omega
            have hok : wrOk hp (t, v) = true := by unfold wrOk; simp only [decide_eq_true_eq]; rw [← HN.out]; exact htN
            have HAR : Hid _ := HAL.out.trans hok
            clear hall d0 d1 hp0 hfl hal T3 c0 c1 c2 t5 hok HFL HAL
            go_wp2_with fail
            go_quiet (fail)
            go_wp2
            go_roundw
            case rel => exact ⟨k4 + 1, by go_num, by omega, HAR.out, HT6.out.drewN _⟩
            case measure => simp [intOf]; omega
          · have q1 : (N : Int) ≤ t := by omega
            have hok : wrOk hp (t, v) = false := by unfold wrOk; simp only [decide_eq_false_iff_not]; rw [← HN.out]; exact htN
            have HFR : Hid _ := HFL.out hok
            clear hall d0 d1 hp0 hfl hal T3 c0 c1 c2 t5 hok HFL HAL
            go_wp2_with fail
            go_quiet (fail)
            go_wp2
            go_ret
            exact ⟨by rw [HF2.out, HFR.out]; rfl, HT3.out.drewN _⟩
        · obtain rfl : k4 = K4 := by omega
          have hallw : ws.all (wrOk hp) = true := by rw [HK4.out, List.take_length] at hall; exact hall
          have HF3 : Hid (res = ow) := by show _ = _; rw [HF2.out, hallw, Bool.true_and]
          have how := HOW.out wr HT5.out
          obtain ⟨c0, c1, c2, c3⟩ := (HRW.out _ HT5.out).cells
          clear hall hallw t5 HF2 HP4 c1 c2 c3 hlt HT4
          go_wp2_with fail
          refine how.mono ?_
          rintro e w6 ⟨rfl, t6⟩
          clear how
          go_wp2
          go_ret
          exact ⟨by rw [HF3.out]; rfl, HT5.out.trans t6 (by simp)⟩

end Go.Proofs.Ytjacclbifeoclaa
