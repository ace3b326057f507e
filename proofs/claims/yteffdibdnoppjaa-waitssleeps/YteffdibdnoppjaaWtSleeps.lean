/-
  WaitsSleeps, WALKED.
-/
import Derived.Test.YteffdibdnoppjaaWtIn
namespace Go.Proofs.Yteffdibdnoppjaa
set_option linter.unusedVariables false
set_option linter.unusedSimpArgs false
open Go.RowKit Go.Maps

theorem waits_of {L : List WD} (h : WWf L) (t : Int) : decide (0 < ((listP (ofP L t)).length : Int)) = decide (t ∈ L.map WD.th) := by
  cases hf : findW L t with
  | none =>
    have h1 := findW_none.1 hf
    have e1 : ofP L t = 0 := by unfold ofP; rw [hf]; rfl
    rw [e1]
    simp only [h1, decide_false]
    rfl
  | some x =>
    obtain ⟨hx, rfl⟩ := findW_some hf
    have e1 : ofP L x.th = x.s := by unfold ofP; rw [hf]; rfl
    have h1 : x.th ∈ L.map WD.th := List.mem_map.2 ⟨x, hx, rfl⟩
    rw [e1]
    have hr := h.rng x hx
    have h2 : 0 < (listP x.s).length := by
      refine List.length_pos_iff.2 fun e => hr.2.2.2 ?_
      refine Nat.eq_of_testBit_eq fun i => ?_
      rw [Nat.zero_testBit]
      by_cases hi : i < 12
      · cases hb : x.s.testBit i with
        | false => rfl
        | true =>
          have : (Int.ofNat i) ∈ listP x.s := List.mem_map.2 ⟨i, List.mem_filter.2 ⟨List.mem_range.2 hi, hb⟩, rfl⟩
          rw [e] at this
          cases this
      · exact Nat.testBit_lt_two_pow (Nat.lt_of_lt_of_le hr.2.2.1 (Nat.pow_le_pow_right (n := 2) (i := 12) (by decide) (by omega)))
    have h3 : (0 : Int) < ((listP x.s).length : Int) := by omega
    simp [h1, h2]
theorem sleeps_of {L : List WD} {t : Int} (h : slP L t = true) : t ∈ L.map WD.th := by
  refine Classical.byContradiction fun hn => ?_
  have := findW_none.2 hn
  unfold slP at h
  rw [this] at h
  cases h

set_option maxRecDepth 100000 in
set_option maxHeartbeats 2000000 in
theorem wsleeps_any (ao : Option Addr) (cap : Nat) (ds : List DeedW) (w : World) (hr : DeedWRow w (.slice ao ds.length cap) ds) (hwf : ∀ d ∈ ds, d.Wf w) (hl : ds.length ≤ maxLen) :
    Calls Try.prog 4 #[.slice ao ds.length cap] w fun e w' => e = .returned (.bool true) ∧ Touch w w' [] := by
  have hp : HidC _ _ _ _ _ := ⟨play_any hr hwf hl⟩
  clear hr hwf hl
  generalize runW [] (ds.take 60) = L at *
  generalize ds.length = N at *
  go_enter Try.func4, Try.ntmps4
  go_wp2_with fail
  refine hp.out.mono ?_
  rintro e w1 ⟨b, F, r, G, rfl, h1⟩
  clear hp
  have HP : Hid _ := h1
  clear h1
  go_wp2_with fail
  refine (live_any w1).mono ?_
  rintro e w2 ⟨rfl, t2⟩
  have HP2 : Hid _ := HP.out.keep t2
  clear t2 HP
  go_wp2_with fail
  refine (waiting_any HP2.out.l).mono ?_
  rintro e w3 ⟨u, rfl, hu, t3⟩
  have HP3 : Hid _ := HP2.out.keep t3
  have hWF := HP2.out.l.wf
  have hln := hWF.len
  have HWF : Hid _ := hWF
  have HU : Hid _ := hu
  obtain ⟨au, cu, rfl⟩ := owns_slice hu
  have hlm : (L.map WD.th).length = L.length := List.length_map ..
  rw [hlm]
  have HLM : Hid _ := hlm
  clear t3 HP2 hu hWF hlm
  generalize hM : L.length = M at hln ⊢
  go_wp2_with fail
  go_loopw [7] (fun i wr => ∃ j : Nat, i = .int .i64 j ∧ j ≤ 4 ∧ Touch w3 wr []) (fun i _ => 4 - (intOf i).toNat)
  case atStart => exact ⟨0, rfl, by omega, Touch.refl _ _⟩
  case round =>
    obtain ⟨j, rfl, hj, hT⟩ := hrel
    have HT : Hid _ := hT
    by_cases hlt : j < 4
    · have h1 : (j : Int) < 4 := by omega
      have h64 : W64 (j : Int) := ⟨by omega, by omega⟩
      have HA : HidC _ _ _ _ _ := ⟨asleep_any (HP3.out.keep hT).l (j : Int) h64⟩
      have HI : Hid (∀ W, Touch w3 W [] → HidC _ _ _ W _) := fun W T => ⟨in_any (irow_of (ownsRow_touch HU.out T (by simp))) (by rw [List.length_map, hM]; omega) (j : Int)⟩
      have HO : HidC _ _ _ _ _ := ⟨of_any (HP3.out.keep hT).l (j : Int) h64⟩
      have hw := waits_of HWF.out (j : Int)
      have hsl : slP L (j : Int) = true → decide ((j : Int) ∈ L.map WD.th) = true := fun h => by simpa using sleeps_of h
      rw [HLM.out, hM] at HI
      clear hT
      generalize listP (ofP L (j : Int)) = ol at *
      generalize decide ((j : Int) ∈ L.map WD.th) = dm at *
      go_wp2_with fail
      refine HA.out.mono ?_
      rintro e w4 ⟨rfl, rfl⟩
      clear HA
      cases hs : slP L (j : Int) with
      | true =>
        have hd := hsl hs
        subst hd
        clear hsl
        go_wp2_with fail
        refine (HI.out _ HT.out).out.mono ?_
        rintro e w4 ⟨rfl, rfl⟩
        go_wp2_with fail
        refine (HI.out _ HT.out).out.mono ?_
        rintro e w4 ⟨rfl, rfl⟩
        go_wp2_with fail
        refine HO.out.mono ?_
        rintro e w5 ⟨v5, rfl, hv5, t5⟩
        obtain ⟨a5, c5, rfl⟩ := owns_slice hv5
        have HT5 : Hid _ := HT.out.trans t5 (by simp)
        have hpos : (0 : Int) < (ol.length : Int) := by simpa using hw
        have hposN : 0 < ol.length := by omega
        clear HO hv5 t5 hw
        go_wp2
        go_roundw
        case rel => exact ⟨j + 1, by go_num, by omega, HT5.out⟩
        case measure => simp [intOf]; omega
      | false =>
        clear hsl
        go_wp2_with fail
        refine (HI.out _ HT.out).out.mono ?_
        rintro e w4 ⟨rfl, rfl⟩
        go_wp2_with fail
        refine HO.out.mono ?_
        rintro e w5 ⟨v5, rfl, hv5, t5⟩
        obtain ⟨a5, c5, rfl⟩ := owns_slice hv5
        have HT5 : Hid _ := HT.out.trans t5 (by simp)
        clear HO hv5 t5
        cases dm with
        | true =>
          have hpos : (0 : Int) < (ol.length : Int) := by simpa using hw
          have hposN : 0 < ol.length := by omega
          clear hw
          go_wp2
          go_roundw
          case rel => exact ⟨j + 1, by go_num, by omega, HT5.out⟩
          case measure => simp [intOf]; omega
        | false =>
          have hpos : ¬ (0 : Int) < (ol.length : Int) := by simpa using hw
          have hz : ol.length = 0 := by omega
          rw [hz]
          clear hw hpos
          go_wp2
          go_roundw
          case rel => exact ⟨j + 1, by go_num, by omega, HT5.out⟩
          case measure => simp [intOf]; omega
    · obtain rfl : j = 4 := by omega
      have h4 : (M : Int) ≤ 4 := by omega
      have HT5 : Hid _ := HP3.out.t.trans hT (by simp)
      clear hT
      go_wp2
      go_ret
      exact ⟨rfl, HT5.out⟩

end Go.Proofs.Yteffdibdnoppjaa
