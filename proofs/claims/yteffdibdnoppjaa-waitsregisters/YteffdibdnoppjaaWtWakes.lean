/-
  WaitsWakes, WALKED.
-/
import Derived.Test.YteffdibdnoppjaaWtIn
namespace Go.Proofs.Yteffdibdnoppjaa
set_option linter.unusedVariables false
set_option linter.unusedSimpArgs false
open Go.RowKit Go.Maps

/-- Who waits for a variable, one by one. -/
theorem in_of {L : List WD} (h : WWf L) {x : WD} (hx : x ∈ L) (t : Nat) (ht : t < 12) : decide ((t : Int) ∈ listP (ofP L x.th)) = decide (x.s &&& setP [(t : Int)] ≠ 0) := by
  have e1 : ofP L x.th = x.s := by unfold ofP; rw [findW_mem h.nod hx]; rfl
  rw [e1]
  have hno : noT (t : Int) = false := by simp [noT]; omega
  have h1 := bitAt x (t : Int) hno
  simp only [Int.toNat_natCast] at h1
  have h2 : (t : Int) ∈ listP x.s ↔ x.s.testBit t = true := by
    constructor
    · intro hm
      obtain ⟨i, hi, e⟩ := List.mem_map.1 hm
      have : i = t := by have e2 : (i : Int) = (t : Int) := e; omega
      subst this
      exact (List.mem_filter.1 hi).2
    · intro hb
      exact List.mem_map.2 ⟨t, List.mem_filter.2 ⟨List.mem_range.2 ht, hb⟩, rfl⟩
  by_cases h3 : x.s.testBit t = true
  · rw [decide_eq_true (h2.2 h3), decide_eq_true (h1.2 h3)]
  · rw [decide_eq_false (fun h => h3 (h2.1 h)), decide_eq_false (fun h => h3 (h1.1 h))]
theorem wake_split (L : List WD) (s : Nat) : (wakeL L s).length + (forP L s).length = L.length := by
  unfold wakeL forP
  rw [List.length_map]
  induction L with
  | nil => rfl
  | cons x L ih =>
    rw [List.filter_cons, List.filter_cons]
    by_cases h : x.s &&& s = 0
    · rw [if_pos (by simpa using h), if_neg (by simpa using h)]
      simp only [List.length_cons]
      omega
    · rw [if_neg (by simpa using h), if_pos (by simpa using h)]
      simp only [List.length_cons]
      omega
theorem wake_left {L : List WD} (h : WWf L) (s : Nat) {t : Int} (ht : t ∈ (wakeL L s).map WD.th) : decide (t ∈ forP L s) = false ∧ decide (t ∈ L.map WD.th) = true := by
  obtain ⟨x, hx, rfl⟩ := List.mem_map.1 ht
  have h1 := List.mem_filter.1 hx
  have h2 : x.th ∉ forP L s := fun hm => (forP_mem h s h1.1).1 hm (by simpa using h1.2)
  exact ⟨by simpa using h2, by simpa using ⟨x, h1.1, rfl⟩⟩
theorem forP_wake (L : List WD) (s : Nat) : forP (wakeL L s) s = [] := by
  unfold forP wakeL
  rw [List.filter_filter]
  rw [List.map_eq_nil_iff, List.filter_eq_nil_iff]
  intro x _
  simp

set_option maxRecDepth 100000 in
set_option maxHeartbeats 4000000 in
theorem wwakes_any (ao : Option Addr) (cap : Nat) (ds : List DeedW) (tv : Int) (ht0 : 0 ≤ tv) (ht1 : tv ≤ 255) (w : World) (hr : DeedWRow w (.slice ao ds.length cap) ds) (hwf : ∀ d ∈ ds, d.Wf w) (hl : ds.length ≤ maxLen) :
    Calls Try.prog 5 #[.slice ao ds.length cap, .int .u8 tv] w fun e w' => e = .returned (.bool true) ∧ Touch w w' [] := by
  have hp : HidC _ _ _ _ _ := ⟨play_any hr hwf hl⟩
  clear hr hwf hl
  generalize runW [] (ds.take 60) = L at *
  generalize ds.length = N at *
  obtain ⟨tn, rfl⟩ := Int.eq_ofNat_of_zero_le ht0
  obtain ⟨t, ht⟩ : ∃ t, t = tn % 12 := ⟨_, rfl⟩
  have ht12 : t < 12 := by omega
  have htm : (tn : Int).tmod 12 = (t : Int) := by rw [Int.tmod_eq_emod_of_nonneg (by omega)]; omega
  have htm2 : (tn : Int) % 12 = (t : Int) := by omega
  clear ht
  go_enter Try.func5, Try.ntmps5
  go_wp2_with fail
  refine hp.out.mono ?_
  rintro e w1 ⟨b, F, r, G, rfl, h1⟩
  clear hp
  have HP : Hid _ := h1
  clear h1
  go_wp2_with fail
  refine (live_any w1).mono ?_
  rintro e w2 ⟨rfl, t2⟩
  have HP2 : Hid _ := HP.out.keep t2
  clear t2 HP
  go_wp2_with fail
  refine (waiting_any HP2.out.l).mono ?_
  rintro e w3 ⟨u, rfl, hu, t3⟩
  have HP3 : Hid _ := HP2.out.keep t3
  have HS23 : Hid _ := t3.size
  have hWF := HP2.out.l.wf
  have HF3 : Hid (∀ x ∈ F, x < w2.heap.size) := HP2.out.l.lt
  have hln := hWF.len
  have HWF : Hid _ := hWF
  have HU : Hid _ := hu
  obtain ⟨au, cu, rfl, hc⟩ := int_form hu
  have HC : Hid _ := hc
  have hlm : (L.map WD.th).length = L.length := List.length_map ..
  simp only [hlm]
  have HLM : Hid _ := hlm
  clear t3 HP2 hu hWF hlm hc
  obtain ⟨M, hM⟩ : ∃ M, M = L.length := ⟨_, rfl⟩
  have HM : Hid _ := hM
  rw [← hM] at hln ⊢
  clear hM
  go_wp2_with fail
  go_loopw [10, 11] (fun v i wr => ∃ j : Nat, i = .int .i64 j ∧ j ≤ M ∧ intOwn wr w3.heap.size v (forP (L.take j) (setP [(t : Int)])) ∧ Touch w3 wr []) (fun _ i _ => M - (intOf i).toNat)
  case atStart => exact ⟨0, rfl, by omega, World.ownsRow_nil _ _ _ _, Touch.refl _ _⟩
  case round =>
    obtain ⟨j, rfl, hj, hrow, hT⟩ := hrel
    have HT : Hid _ := hT
    have hsz := hT.size
    by_cases hlt : j < M
    · have h1 : (j : Int) < M := by omega
      have h0 : (0 : Int) ≤ j := by omega
      have hjl : j < L.length := by rw [← HM.out]; exact hlt
      obtain ⟨g, rfl, hg, d0⟩ := HC.out j (by simpa using hjl)
      rw [List.getElem_map] at d0
      have e0 := (hT.cell (p := ⟨g, j, none⟩) hg (by simp)).trans d0
      have hx := List.getElem_mem hjl
      have hin := in_of HWF.out hx t ht12
      have hof : HidC _ _ _ _ _ := ⟨of_any (HP3.out.keep hT).l L[j].th (th64 HWF.out _ hx)⟩
      have hofl : (listP (ofP L L[j].th)).length ≤ 1000 := Nat.le_trans (bitsP_len _ 12) (by omega)
      have HIN : Hid (∀ (W : World) (B : Nat) (v : Value), intOwn W B v (listP (ofP L L[j].th)) → HidC _ _ _ W _) := fun W B v hv => ⟨in_any (irow_of hv) hofl (t : Int)⟩
      rw [hin] at HIN
      have hsn := forP_snoc hjl (setP [(t : Int)])
      have hll := forP_len (L.take j) (setP [(t : Int)])
      rw [List.length_take] at hll
      have HSN : Hid _ := hsn
      have HROW : Hid _ := hrow
      generalize listP (ofP L L[j].th) = ol at *
      generalize L[j] = x at *
      clear hin hsn hx hT d0 hofl
      go_wp2_with fail
      refine hof.out.mono ?_
      rintro e w4 ⟨v4, rfl, hv4, t4⟩
      have hi4 := HIN.out _ _ _ hv4
      have hr4 : intOwn w4 w3.heap.size _ _ := ownsRow_touch HROW.out t4 (by simp)
      have T4 : Touch w3 w4 [] := HT.out.trans t4 (by simp)
      have e4 := (t4.cell (p := ⟨g, j, none⟩) (Nat.lt_of_lt_of_le hg hsz) (by simp)).trans e0
      obtain ⟨a4, c4, rfl⟩ := owns_slice hv4
      clear hof hv4 hrow
      go_wp2_with fail
      refine hi4.out.mono ?_
      rintro e w5 ⟨rfl, rfl⟩
      clear hi4
      obtain ⟨ao2, cap2, rfl⟩ := owns_slice hr4
      by_cases hz : x.s &&& setP [(t : Int)] = 0
      · have hdec : decide (x.s &&& setP [(t : Int)] ≠ 0) = false := by simp [hz]
        rw [hdec]
        have HS2 : Hid (forP (L.take (j + 1)) (setP [(t : Int)]) = forP (L.take j) (setP [(t : Int)])) := by show _ = _; rw [HSN.out, if_neg (by simpa using hz)]
        have HR : Hid _ := hr4
        have HT4 : Hid _ := T4
        clear hz hr4 hdec T4 t4
        go_wp2
        go_roundw
        case rel => exact ⟨j + 1, by go_num, by omega, by rw [HS2.out]; exact HR.out, HT4.out⟩
        case measure => simp [intOf]; omega
      · have hdec : decide (x.s &&& setP [(t : Int)] ≠ 0) = true := by simp [hz]
        rw [hdec]
        have HS2 : Hid (forP (L.take (j + 1)) (setP [(t : Int)]) = forP (L.take j) (setP [(t : Int)]) ++ [x.th]) := by show _ = _; rw [HSN.out, if_pos hz]
        obtain ⟨ao', cap', w', hrun, hown, ht', hbl2⟩ := run_push hr4 (by omega) T4.size x.th 22
        have HT2 : Hid (Touch w3 w' []) := T4.trans ht' (fun y hy => .inr (int_lt hr4 y (by simpa using hy)).1)
        have HR : Hid _ := hown
        clear hz hr4 hdec T4 t4 hown ht' hbl2
        go_wp2_with (at_builtin; refine Lib.wpList_append_run _ rfl _ _ _ _ rfl _ _ rfl rfl _ _ hrun ?_)
        go_wp2
        go_roundw
        case rel => exact ⟨j + 1, by go_num, by omega, by rw [HS2.out]; exact HR.out, HT2.out⟩
        case measure => simp [intOf]; omega
    · obtain rfl : j = M := by omega
      have hall : L.take j = L := by rw [HM.out, List.take_length]
      rw [hall] at hrow
      -- the wake
      have hPr := HP3.out.keep hT
      have TA : Touch wr (wr.alloc (.cells #[.int .i64 (t : Int)] 3)) [] := (Touch.refl wr []).alloc _
      have hwk : HidC _ _ _ _ _ := ⟨wake_any (hPr.keep TA).l (one_new wr (t : Int)) (by simp)⟩
      have HPR : Hid _ := hPr.keep TA
      have HROW : Hid (intOwn (wr.alloc (.cells #[.int .i64 (t : Int)] 3)) w3.heap.size _ (forP L (setP [(t : Int)]))) := ownsRow_touch hrow TA (by simp)
      have HU2 : Hid (intOwn (wr.alloc (.cells #[.int .i64 (t : Int)] 3)) w2.heap.size _ (L.map WD.th)) := ownsRow_touch HU.out (hT.trans TA (by simp)) (by simp)
      have hlw := wake_split L (setP [(t : Int)])
      have hlf : ∀ y ∈ (wakeL L (setP [(t : Int)])).map WD.th, decide (y ∈ forP L (setP [(t : Int)])) = false ∧ decide (y ∈ L.map WD.th) = true := fun y hy => wake_left HWF.out _ hy
      have hfw := forP_wake L (setP [(t : Int)])
      have hfl := forP_len L (setP [(t : Int)])
      have HLF : Hid _ := hlf
      have HFW : Hid _ := hfw
      have hs3 : w2.heap.size ≤ w3.heap.size := HS23.out
      rw [← HM.out] at hlw hfl
      generalize hLW : wakeL L (setP [(t : Int)]) = LW at *
      generalize hLF : forP L (setP [(t : Int)]) = fl at *
      clear hrow hall hPr TA hT hlf hfw
      go_wp2_with fail
      refine hwk.out.mono ?_
      rintro e w4 ⟨u4, rfl, hu4, h4, t4⟩
      clear hwk
      have hrow4 : intOwn w4 w3.heap.size _ fl := ownsRow_touch HROW.out t4 (fun g hg hs => by have := (int_lt HROW.out g hg).1; have := HF3.out g hs; omega)
      have hU4 : intOwn w4 w2.heap.size _ (L.map WD.th) := ownsRow_touch HU2.out t4 (fun g hg hs => by have := (int_lt HU2.out g hg).1; have := HF3.out g hs; omega)
      have HT4 : Hid (Touch w w4 []) := HPR.out.t.trans t4 (fun x hx => .inr (HPR.out.fl x hx))
      have HU4 : Hid _ := hu4
      have H4 : Hid _ := h4
      obtain ⟨a4, c4, rfl⟩ := owns_slice hu4
      clear HROW HU2 HPR t4 hu4 h4
      go_wp2_with fail
      refine (waiting_any H4.out).mono ?_
      rintro e w5 ⟨u5, rfl, hu5, t5⟩
      have hrow5 : intOwn w5 w3.heap.size _ fl := ownsRow_touch hrow4 t5 (by simp)
      have hU5 : intOwn w5 w2.heap.size _ (L.map WD.th) := ownsRow_touch hU4 t5 (by simp)
      have HU5 : Hid (intOwn w5 _ _ fl) := ownsRow_touch HU4.out t5 (by simp)
      have H5 : Hid _ := WAt.touch H4.out t5 (by simp)
      have HT5 : Hid _ := HT4.out.trans t5 (by simp)
      have HA5 : Hid _ := irow_of hU5
      have HW5 : Hid _ := irow_of hrow5
      have HROW5 : Hid _ := hrow5
      obtain ⟨a5, c5, rfl, hc5⟩ := int_form hu5
      have HC5 : Hid _ := hc5
      obtain ⟨aw, cw, rfl⟩ := owns_slice hrow5
      have hlm5 : (LW.map WD.th).length = LW.length := List.length_map ..
      simp only [hlm5]
      obtain ⟨K, hK⟩ : ∃ K, K = LW.length := ⟨_, rfl⟩
      have HK : Hid _ := hK
      rw [← hK] at hlw ⊢
      clear hrow4 hU4 hrow5 hU5 hu5 t5 hc5 hlm5 HU4 H4 HT4 hK
      go_wp2_with fail
      go_loopw [14] (fun i wr => ∃ n : Nat, i = .int .i64 n ∧ n ≤ K ∧ wr = w5) (fun i _ => K - (intOf i).toNat)
      case atStart => exact ⟨0, rfl, Nat.zero_le _, rfl⟩
      case round =>
        obtain ⟨n, rfl, hn, rfl⟩ := hrel
        by_cases hnt : n < K
        · have n1 : (n : Int) < K := by omega
          have n0 : (0 : Int) ≤ n := by omega
          have hnl : n < LW.length := by rw [← HK.out]; exact hnt
          have hmem : LW[n].th ∈ LW.map WD.th := List.mem_map.2 ⟨_, List.getElem_mem hnl, rfl⟩
          obtain ⟨i1, i2⟩ := HLF.out _ hmem
          obtain ⟨g5, rfl, hg5, d5⟩ := HC5.out n (by simpa using hnl)
          rw [List.getElem_map] at d5
          have hI1 : HidC _ _ _ _ _ := ⟨in_any HW5.out (by omega) LW[n].th⟩
          have hI2 : HidC _ _ _ _ _ := ⟨in_any HA5.out (by rw [HLM.out]; have := HM.out; omega) LW[n].th⟩
          rw [i1] at hI1
          rw [i2, HLM.out, ← HM.out] at hI2
          generalize LW[n].th = y at *
          clear i1 i2 hmem
          go_wp2_with fail
          refine hI1.out.mono ?_
          rintro e w6 ⟨rfl, rfl⟩
          clear hI1
          go_wp2_with fail
          refine hI2.out.mono ?_
          rintro e w6 ⟨rfl, rfl⟩
          clear hI2
          go_wp2
          go_roundw
          case rel => exact ⟨n + 1, by go_num, by omega, by simp⟩
          case measure => simp [intOf]; omega
        · obtain rfl : n = K := by omega
          have hSM : HidC _ _ _ _ _ := ⟨sameInts_eq _ _ _ _ _ _ _ (by omega) HU5.out HROW5.out⟩
          go_wp2_with fail
          refine hSM.out.mono ?_
          rintro e w6 ⟨rfl, t6⟩
          clear hSM
          have hat : HidC _ _ _ _ _ := ⟨at_any (WAt.touch H5.out t6 (by simp)) (t : Int)⟩
          rw [HFW.out] at hat
          have HT6 : Hid _ := HT5.out.trans t6 (by simp)
          have hsum : (n : Int) + (fl.length : Int) = (j : Int) := by omega
          clear t6
          go_wp2_with fail
          refine hat.out.mono ?_
          rintro e w7 ⟨u7, rfl, hu7, t7⟩
          obtain ⟨a7, c7, rfl⟩ := owns_slice hu7
          have HT7 : Hid _ := HT6.out.trans t7 (by simp)
          clear hat hu7 t7
          simp only [List.length_nil]
          go_wp2
          go_ret
          exact ⟨rfl, HT7.out⟩

end Go.Proofs.Yteffdibdnoppjaa
