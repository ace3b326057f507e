/-
  WaitsRegisters, WALKED.
-/
import Derived.Test.YteffdibdnoppjaaWtWakes
namespace Go.Proofs.Yteffdibdnoppjaa
set_option linter.unusedVariables false
set_option linter.unusedSimpArgs false
open Go.RowKit Go.Maps
attribute [local go_sem] Oper.semAt_some

theorem regs_for {L : List WD} {th : Int} {vs : List Int} {v : Int} (hv : v ∈ vs) (hno : vs.any noT = false) : forP (L ++ [⟨th, setP vs, false⟩]) (setP [v]) = forP L (setP [v]) ++ [th] := by
  have h1 : noT v = false := by
    rw [Bool.eq_false_iff]; intro h
    have : vs.any noT = true := List.any_eq_true.2 ⟨v, hv, h⟩
    rw [hno] at this; cases this
  have h12 : 0 ≤ v ∧ v < 12 := by simp [noT] at h1; omega
  have h2 := (bitAt ⟨th, setP vs, false⟩ v h1).2 (by
    show (setP vs).testBit v.toNat = true
    rw [setP_bit vs v.toNat (by omega), Int.toNat_of_nonneg h12.1]
    simpa using hv)
  unfold forP
  rw [List.filter_append, List.map_append]
  congr 1
  rw [List.filter_cons_of_pos (by simpa using h2)]
  rfl
theorem regs_of {L : List WD} {th : Int} {vs : List Int} {v : Int} (hf : findW L th = none) (hv : v ∈ vs) (hno : vs.any noT = false) : decide (v ∈ listP (ofP (L ++ [⟨th, setP vs, false⟩]) th)) = true := by
  have h1 : noT v = false := by
    rw [Bool.eq_false_iff]; intro h
    have : vs.any noT = true := List.any_eq_true.2 ⟨v, hv, h⟩
    rw [hno] at this; cases this
  have h12 : 0 ≤ v ∧ v < 12 := by simp [noT] at h1; omega
  have e1 : ofP (L ++ [⟨th, setP vs, false⟩]) th = setP vs := by
    unfold ofP
    rw [find_app (x := ⟨th, setP vs, false⟩) hf, if_pos rfl]
    rfl
  rw [e1]
  have : Int.ofNat v.toNat ∈ listP (setP vs) := List.mem_map.2 ⟨v.toNat, List.mem_filter.2 ⟨List.mem_range.2 (by omega), by
    rw [setP_bit vs v.toNat (by omega), Int.toNat_of_nonneg h12.1]
    simpa using hv⟩, rfl⟩
  have e2 : Int.ofNat v.toNat = v := Int.toNat_of_nonneg h12.1
  rw [e2] at this
  simpa using this
/-- Of, of who is registered. -/
theorem of_reg (L : List WD) (th : Int) (vs : List Int) (hth : W64 th) (hf : findW L th = none) (hno : vs.any noT = false) :
    ∃ ol : List Int, ol.length ≤ 1000 ∧ (∀ v ∈ vs, decide (v ∈ ol) = true) ∧ ∀ (W : World) (b k : Nat) (F : List Nat), WAt W b F k (L ++ [⟨th, setP vs, false⟩]) → Calls Try.prog 16 #[ptr b, .int .i64 th] W (IntsPost W ol) := by
  have h1 := bitsP_len (ofP (L ++ [⟨th, setP vs, false⟩]) th) 12
  have h2 : ∀ v ∈ vs, decide (v ∈ listP (ofP (L ++ [⟨th, setP vs, false⟩]) th)) = true := fun v hv => regs_of hf hv hno
  have h3 := fun (W : World) (b k : Nat) (F : List Nat) (h : WAt W b F k (L ++ [⟨th, setP vs, false⟩])) => of_any h th hth
  unfold listP at h2 h3
  generalize bitsP (ofP (L ++ [⟨th, setP vs, false⟩]) th) 12 = ol at *
  exact ⟨ol, by omega, h2, h3⟩
theorem regs_back {L : List WD} {th : Int} {s : Nat} (hf : findW L th = none) : outP (L ++ [⟨th, s, false⟩]) (fun t => t == th) = L := by
  unfold outP
  rw [List.filter_append, List.filter_cons_of_neg (by simp), List.filter_nil, List.append_nil]
  refine List.filter_eq_self.2 fun x hx => ?_
  have : x.th ≠ th := fun e => (findW_none.1 hf) (e ▸ List.mem_map.2 ⟨x, hx, rfl⟩)
  simpa using this
theorem last_form {w : World} {B : Nat} {v : Value} {fl : List Int} {t : Int} (h : intOwn w B v (fl ++ [t])) : ∃ g c, v = .slice (some ⟨g, 0, none⟩) (fl.length + 1) c ∧ g < w.heap.size ∧ w.cell? ⟨g, fl.length, none⟩ = some (.int .i64 t) := by
  obtain ⟨a5, c5, rfl, hc5⟩ := int_form h
  obtain ⟨g5, rfl, hg5, d5⟩ := hc5 fl.length (by simp)
  refine ⟨g5, c5, by simp, hg5, ?_⟩
  rw [d5]
  simp
def modP (l : List Int) : List Int := l.map (fun x => x % 12)
theorem modP_no {l : List Int} : (modP l).any noT = false := by
  rw [Bool.eq_false_iff]
  intro h
  obtain ⟨y, hy, hn⟩ := List.any_eq_true.1 h
  obtain ⟨x, _, rfl⟩ := List.mem_map.1 hy
  simp [noT] at hn
  omega

set_option maxRecDepth 100000 in
set_option maxHeartbeats 2000000 in
theorem wregs_any (ao : Option Addr) (cap : Nat) (ds : List DeedW) (th : Int) (hth0 : 0 ≤ th) (hth1 : th ≤ 255) (av : Option Addr) (cv : Nat) (vl : List Int) (w : World) (hr : DeedWRow w (.slice ao ds.length cap) ds) (hwf : ∀ d ∈ ds, d.Wf w) (hl : ds.length ≤ maxLen)
    (hrv : URow w (.slice av vl.length cv) vl) (hwv : ∀ x ∈ vl, 0 ≤ x ∧ x ≤ 255) (hlv : vl.length ≤ maxLen) :
    Calls Try.prog 6 #[.slice ao ds.length cap, .int .u8 th, .slice av vl.length cv] w fun e w' => e = .returned (.bool true) ∧ Touch w w' [] := by
  have hp : HidC _ _ _ _ _ := ⟨play_any hr hwf hl⟩
  clear hr hwf hl
  have hl2 : vl.length ≤ 9223372036854775807 := by unfold maxLen at hlv; omega
  have HR : Hid _ := hrv
  have HW : Hid _ := hwv
  obtain ⟨M, hM⟩ : ∃ M, M = vl.length := ⟨_, rfl⟩
  have HM : Hid _ := hM
  rw [← hM] at hl2 ⊢
  clear hrv hwv hlv hM
  generalize runW [] (ds.take 60) = L at *
  generalize ds.length = N at *
  obtain ⟨tn, rfl⟩ := Int.eq_ofNat_of_zero_le hth0
  obtain ⟨t, ht⟩ : ∃ t, t = tn % 4 := ⟨_, rfl⟩
  have ht4 : t < 4 := by omega
  have htm : (tn : Int).tmod 4 = (t : Int) := by rw [Int.tmod_eq_emod_of_nonneg (by omega)]; omega
  have htm2 : (tn : Int) % 4 = (t : Int) := by omega
  clear ht
  go_enter Try.func6, Try.ntmps6
  go_wp2_with fail
  refine hp.out.mono ?_
  rintro e w1 ⟨b, F, r, G, rfl, h1⟩
  clear hp
  have HP : Hid _ := h1
  clear h1
  go_wp2_with fail
  refine (live_any w1).mono ?_
  rintro e w2 ⟨rfl, t2⟩
  have HP2 : Hid _ := HP.out.keep t2
  clear t2 HP
  go_wp2_with fail
  go_loopw [11, 12] (fun v i wr => ∃ j : Nat, i = .int .i64 j ∧ j ≤ M ∧ j ≤ 8 ∧ intOwn wr w2.heap.size v (modP (vl.take j)) ∧ Touch w2 wr []) (fun _ i _ => 8 - (intOf i).toNat)
  case atStart => exact ⟨0, rfl, by omega, by omega, World.ownsRow_nil _ _ _ _, Touch.refl _ _⟩
  case round =>
    obtain ⟨j, rfl, hj, hj8, hrow, hT⟩ := hrel
    have HT : Hid _ := hT
    have hsz := hT.size
    have hstep : j < M → j < 8 → True := fun _ _ => trivial
    by_cases hgo : j < M ∧ j < 8
    · obtain ⟨hlt, h8⟩ := hgo
      have h1 : (j : Int) < M := by omega
      have h0 : (0 : Int) ≤ j := by omega
      have h2 : (j : Int) < 8 := by omega
      have hjl : j < vl.length := by rw [← HM.out]; exact hlt
      obtain ⟨g, off, e, hg, hc⟩ := SRow.at (n := 1) (cells := fun x : Int => [Value.int .u8 x]) (w := w) (ao := av) (cap := cv) (l := vl) HR.out j hjl
      subst e
      have d0 : wr.cell? ⟨g, off + j, none⟩ = some (.int .u8 vl[j]) := by
        have := hc 0 (by omega)
        have h3 := ((HP2.out.t.trans hT (by simp)).cell (p := ⟨g, off + j, none⟩) hg (by simp))
        rw [h3]
        simpa using this
      have hb := HW.out _ (List.getElem_mem hjl)
      have HSN : Hid (modP (vl.take (j + 1)) = modP (vl.take j) ++ [vl[j] % 12]) := by show _ = _; unfold modP; rw [List.take_succ_eq_append_getElem hjl, List.map_append]; rfl
      have hml : (modP (vl.take j)).length ≤ 8 := by unfold modP; rw [List.length_map, List.length_take]; omega
      have htv : (vl[j]).tmod 12 = vl[j] % 12 := Int.tmod_eq_emod_of_nonneg hb.1
      obtain ⟨ao2, cap2, rfl⟩ := owns_slice hrow
      obtain ⟨ao', cap', w', hrun, hown, ht', hbl2⟩ := run_push hrow (by omega) hsz (vl[j] % 12) 22
      have HT2 : Hid (Touch w2 w' []) := HT.out.trans ht' (fun y hy => .inr (int_lt hrow y (by simpa using hy)).1)
      have HRO : Hid _ := hown
      generalize vl[j] = y at *
      obtain ⟨yn, rfl⟩ := Int.eq_ofNat_of_zero_le hb.1
      clear hrow hT hown ht' hbl2 hc hstep
      go_wp2_with (at_builtin; refine Lib.wpList_append_run _ rfl _ _ _ _ rfl _ _ rfl rfl _ _ hrun ?_)
      go_wp2
      go_roundw
      case rel => exact ⟨j + 1, by go_num, by omega, by omega, by rw [HSN.out]; exact HRO.out, HT2.out⟩
      case measure => simp [intOf]; omega
    · have HPr : Hid _ := HP2.out.keep hT
      have hlv : (modP (vl.take j)).length ≤ 8 := by unfold modP; rw [List.length_map, List.length_take]; omega
      have hno : (modP (vl.take j)).any noT = false := modP_no
      generalize modP (vl.take j) = vs at *
      have HNO : Hid _ := hno
      have HROW : Hid _ := hrow
      obtain ⟨av2, cv2, rfl⟩ := owns_slice hrow
      clear hrow hno
      by_cases hlt : j < M
      · have h8 : ¬ j < 8 := fun h => hgo ⟨hlt, h⟩
        obtain rfl : j = 8 := by omega
        have h1 : ((8 : Nat) : Int) < M := by omega
        have h1' : (8 : Int) < M := by omega
        clear hT hgo hstep
        go_wp2_with fail
        refine (waiting_any HPr.out.l).mono ?_
        rintro e w3 ⟨u, rfl, hu, t3⟩
        have HP3 : Hid _ := HPr.out.keep t3
        have hWF := HPr.out.l.wf
        have hln := hWF.len
        have HWF : Hid _ := hWF
        have HU : Hid _ := hu
        have hrow3 : intOwn w3 w2.heap.size _ vs := ownsRow_touch HROW.out t3 (by simp)
        have HROW3 : Hid _ := hrow3
        have HF3 : Hid (∀ x ∈ F, x < w2.heap.size) := HP2.out.l.lt
        have HSZ : Hid (w2.heap.size ≤ wr.heap.size) := HT.out.size
        have hreg : HidC _ _ _ _ _ := ⟨register_any HP3.out.l (by omega) (t : Int) ⟨by omega, by omega⟩ (irow_of hrow3) (by omega)⟩
        obtain ⟨au, cu, rfl⟩ := owns_slice hu
        have hnt : noTh (t : Int) = false := by simp [noTh]; omega
        have hnn : ¬ (noTh (t : Int) = true ∨ vs.any noT = true) := by rw [hnt, HNO.out]; simp
        have hlm : (L.map WD.th).length = L.length := List.length_map ..
        have HLM : Hid _ := hlm
        rw [hlm]
        clear t3 hu hrow3 hWF hnt HPr HROW hlm
        go_wp2_with fail
        refine hreg.out.mono ?_
        rintro e w4 ⟨rfl, p4⟩
        clear hreg
        have T4 : Touch w3 w4 F := p4.choose_spec.2.1
        have hrow4 : intOwn w4 w2.heap.size _ vs := ownsRow_touch HROW3.out T4 (fun g hg hs => by have := (int_lt HROW3.out g hg).1; have := HF3.out g hs; omega)
        have hU4 : intOwn w4 wr.heap.size _ (L.map WD.th) := ownsRow_touch HU.out T4 (fun g hg hs => by have := (int_lt HU.out g hg).1; have := HF3.out g hs; have := HSZ.out; omega)
        obtain ⟨F4, hP4⟩ := HP3.out.left p4
        clear p4 T4
        by_cases hv0 : vs = []
        · have e1 : regE L (t : Int) vs = (3, L) := by unfold regE; rw [if_neg hnn, if_pos hv0]
          rw [e1] at hP4 ⊢
          have hs4 : HidC _ _ _ _ _ := ⟨same_any hP4⟩
          have HT4 : Hid _ := hP4.t
          have hvl : vs.length = 0 := by rw [hv0]; rfl
          clear hP4 e1 hrow4 hU4 hv0
          rw [hvl]
          clear hvl
          go_wp2_with fail
          refine hs4.out.mono ?_
          rintro e w5 ⟨rfl, t5⟩
          have HT5 : Hid _ := HT4.out.trans t5 (by simp)
          clear hs4 t5
          go_wp2
          go_ret
          exact ⟨rfl, HT5.out⟩
        · cases hf : findW L (t : Int) with
          | some x =>
            have e1 : regE L (t : Int) vs = (6, L) := by unfold regE; rw [if_neg hnn, if_neg hv0, if_pos (by rw [hf]; rfl)]
            rw [e1] at hP4 ⊢
            have hs4 : HidC _ _ _ _ _ := ⟨same_any hP4⟩
            have HT4 : Hid _ := hP4.t
            have hmem : decide ((t : Int) ∈ L.map WD.th) = true := by
              obtain ⟨h5, h6⟩ := findW_some hf
              simpa using ⟨x, h5, h6⟩
            have HI : Hid (∀ W, Touch w4 W [] → HidC _ _ _ W _) := fun W T => ⟨in_any (irow_of (ownsRow_touch hU4 T (by simp))) (by rw [HLM.out]; omega) (t : Int)⟩
            rw [hmem, HLM.out] at HI
            clear hP4 e1 hrow4 hU4 hv0 hf hmem
            go_wp2_with fail
            refine hs4.out.mono ?_
            rintro e w5 ⟨rfl, t5⟩
            have HT5 : Hid _ := HT4.out.trans t5 (by simp)
            have hi5 := HI.out _ t5
            clear hs4 t5
            go_wp2_with fail
            refine hi5.out.mono ?_
            rintro e w6 ⟨rfl, rfl⟩
            clear hi5
            go_wp2
            go_ret
            exact ⟨rfl, HT5.out⟩
          | none =>
            have e1 : regE L (t : Int) vs = (0, L ++ [⟨(t : Int), setP vs, false⟩]) := by unfold regE; rw [if_neg hnn, if_neg hv0, if_neg (by rw [hf]; simp)]
            rw [e1] at hP4 ⊢
            have HP4 : Hid _ := hP4
            have HF4 : Hid _ := hf
            obtain ⟨ol, hol⟩ := of_reg L (t : Int) vs ⟨by omega, by omega⟩ hf HNO.out
            have HOL : Hid _ := hol
            clear hol
            have HR4 : Hid _ := hrow4
            obtain ⟨av3, cv3, ev3, hc3⟩ := int_form hrow4
            simp only [Value.slice.injEq, true_and] at ev3
            obtain ⟨rfl, rfl⟩ := ev3
            have HC3 : Hid _ := hc3
            obtain ⟨K, hK⟩ : ∃ K, K = vs.length := ⟨_, rfl⟩
            have HKK : Hid _ := hK
            rw [← hK] at hlv ⊢
            clear e1 hP4 hU4 hrow4 hc3 hf hK
            go_wp2_with fail
            go_loopw [15] (fun i wr => ∃ n : Nat, i = .int .i64 n ∧ n ≤ K ∧ Touch w4 wr []) (fun i _ => K - (intOf i).toNat)
            case atStart => exact ⟨0, rfl, Nat.zero_le _, Touch.refl _ _⟩
            case round =>
              obtain ⟨n, rfl, hn, hTn⟩ := hrel
              have HTn : Hid _ := hTn
              have hsn := hTn.size
              by_cases hnk : n < K
              · have n1 : (n : Int) < K := by omega
                have n0 : (0 : Int) ≤ n := by omega
                have hnl : n < vs.length := by rw [← HKK.out]; exact hnk
                have hvm := List.getElem_mem hnl
                have hfr := regs_for (L := L) (th := (t : Int)) hvm HNO.out
                have hof := HOL.out.2.1 _ hvm
                obtain ⟨gv, rfl, hgv, dv⟩ := HC3.out n hnl
                have dv2 := (hTn.cell (p := ⟨gv, n, none⟩) hgv (by simp)).trans dv
                have hA : HidC _ _ _ _ _ := ⟨at_any (HP4.out.keep hTn).l vs[n]⟩
                rw [hfr] at hA
                have HOF : Hid (∀ W, Touch w4 W [] → HidC _ _ _ W _) := fun W T => ⟨HOL.out.2.2 W _ _ _ (HP4.out.keep T).l⟩
                have hfl4 := Nat.le_trans (forP_len L (setP [vs[n]])) hln
                generalize vs[n] = y at *
                have HIN : Hid (∀ (W : World) (B : Nat) (v : Value), intOwn W B v ol → HidC Try.prog 21 #[v, .int .i64 y] W fun e w' => e = .returned (.bool true) ∧ W = w') := fun W B v hv => ⟨by
                  have h5 := in_any (irow_of hv) HOL.out.1 y
                  rw [hof] at h5
                  exact h5⟩
                generalize forP L (setP [y]) = fl at *
                clear hfr hof hvm dv hTn
                go_wp2_with fail
                refine hA.out.mono ?_
                rintro e w5 ⟨u5, rfl, hu5, t5⟩
                clear hA
                have T5 : Touch w4 w5 [] := HTn.out.trans t5 (by simp)
                have e5 := (t5.cell (p := ⟨gv, n, none⟩) (Nat.lt_of_lt_of_le hgv hsn) (by simp)).trans dv2
                obtain ⟨g5, c5, rfl, hg5, d6⟩ := last_form hu5
                generalize fl.length = Q at *
                have q1 : (Q : Int) < (Q : Int) + 1 := by omega
                have q0 : (0 : Int) ≤ (Q : Int) := by omega
                have q2 : (Q : Int) + 1 - 1 = (Q : Int) := by omega
                have q3 : IntKind.i64.wrap ((Q : Int) + 1 - 1) = (Q : Int) := by rw [IntKind.wrap_i64]; omega
                have q4 : IntKind.i64.wrap (Q : Int) = (Q : Int) := by rw [IntKind.wrap_i64]; omega
                have q5 : ¬ (Q : Int) + 1 = 0 := by omega
                have hof5 := HOF.out w5 T5
                have hgl := Nat.lt_of_lt_of_le hgv HTn.out.size
                have hgl5 : gv < w5.heap.size := Nat.lt_of_lt_of_le hgl t5.size
                have HK5 : Hid (∀ W, Touch w5 W [] → W.cell? ⟨g5, Q, none⟩ = some (.int .i64 (t : Int)) ∧ W.cell? ⟨gv, n, none⟩ = some (.int .i64 y)) := fun W T => ⟨(T.cell (p := ⟨g5, Q, none⟩) hg5 (by simp)).trans d6, (T.cell (p := ⟨gv, n, none⟩) hgl5 (by simp)).trans e5⟩
                have m0 := HK5.out _ ((Touch.refl w5 []).drew)
                have hof5d := HOF.out w5.drew (T5.trans (Touch.refl w5 []).drew (by simp))
                have HT5 : Hid _ := T5
                clear hu5 t5 T5 d6 hof5 hgl hgl5
                go_wp2_with fail
                go_region_held3 (fun w' => w'.cell? ⟨g5, Q, none⟩ = some (.int .i64 (t : Int)) ∧ w'.cell? ⟨gv, n, none⟩ = some (.int .i64 y)) (first | exact m0 | exact m1) (first
                  | (go_at_call 16; refine hof5d.out.mono ?_; rintro e w6 ⟨u6, rfl, hu6, t6⟩; have m1 := HK5.out w6 ((Touch.refl w5 []).drew.trans t6 (by simp)); have hi6 := HIN.out _ _ _ hu6; obtain ⟨a6, c6, rfl⟩ := owns_slice hu6)
                  | (go_at_call 21; refine hi6.out.mono ?_; rintro e w7 ⟨rfl, rfl⟩))
                have HT6 : Hid _ := HT5.out.trans ((Touch.refl w5 []).drew.trans t6 (by simp)) (by simp)
                clear hu6 t6 m0 m1 hi6 hof5d
                go_wp2
                go_roundw
                case rel => exact ⟨n + 1, by go_num, by omega, HT6.out⟩
                case measure => simp [intOf]; omega
              · obtain rfl : n = K := by omega
                have hPn := HP4.out.keep hTn
                have hsl : slP (L ++ [⟨(t : Int), setP vs, false⟩]) (t : Int) = false := by
                  unfold slP
                  rw [find_app (x := ⟨(t : Int), setP vs, false⟩) HF4.out, if_pos rfl]
                  rfl
                have hA : HidC _ _ _ _ _ := ⟨asleep_any hPn.l (t : Int) ⟨by omega, by omega⟩⟩
                rw [hsl] at hA
                have hCa : HidC _ _ _ _ _ := ⟨cancel_any hPn.l (t : Int) ⟨by omega, by omega⟩⟩
                have ec : cancelE (L ++ [⟨(t : Int), setP vs, false⟩]) (t : Int) = (0, L) := by
                  unfold cancelE
                  rw [if_neg (by simp [noTh]; omega), if_pos (by rw [find_app (x := ⟨(t : Int), setP vs, false⟩) HF4.out, if_pos rfl]; rfl), regs_back HF4.out]
                rw [ec] at hCa
                have HPn : Hid _ := hPn
                clear hTn hPn hsl ec
                go_wp2_with fail
                refine hA.out.mono ?_
                rintro e w5 ⟨rfl, rfl⟩
                clear hA
                go_wp2_with fail
                refine hCa.out.mono ?_
                rintro e w6 ⟨rfl, p6⟩
                clear hCa
                obtain ⟨F6, hP6⟩ := HPn.out.left p6
                have hs6 : HidC _ _ _ _ _ := ⟨same_any hP6⟩
                have HT6 : Hid _ := hP6.t
                clear p6 hP6
                go_wp2_with fail
                refine hs6.out.mono ?_
                rintro e w7 ⟨rfl, t7⟩
                have HT7 : Hid _ := HT6.out.trans t7 (by simp)
                clear hs6 t7
                go_wp2
                go_ret
                exact ⟨rfl, HT7.out⟩
      · have h1 : ¬ (j : Int) < M := by omega
        clear hT hgo hstep
        go_wp2_with fail
        refine (waiting_any HPr.out.l).mono ?_
        rintro e w3 ⟨u, rfl, hu, t3⟩
        have HP3 : Hid _ := HPr.out.keep t3
        have hWF := HPr.out.l.wf
        have hln := hWF.len
        have HWF : Hid _ := hWF
        have HU : Hid _ := hu
        have hrow3 : intOwn w3 w2.heap.size _ vs := ownsRow_touch HROW.out t3 (by simp)
        have HROW3 : Hid _ := hrow3
        have HF3 : Hid (∀ x ∈ F, x < w2.heap.size) := HP2.out.l.lt
        have HSZ : Hid (w2.heap.size ≤ wr.heap.size) := HT.out.size
        have hreg : HidC _ _ _ _ _ := ⟨register_any HP3.out.l (by omega) (t : Int) ⟨by omega, by omega⟩ (irow_of hrow3) (by omega)⟩
        obtain ⟨au, cu, rfl⟩ := owns_slice hu
        have hnt : noTh (t : Int) = false := by simp [noTh]; omega
        have hnn : ¬ (noTh (t : Int) = true ∨ vs.any noT = true) := by rw [hnt, HNO.out]; simp
        have hlm : (L.map WD.th).length = L.length := List.length_map ..
        have HLM : Hid _ := hlm
        rw [hlm]
        clear t3 hu hrow3 hWF hnt HPr HROW hlm
        go_wp2_with fail
        refine hreg.out.mono ?_
        rintro e w4 ⟨rfl, p4⟩
        clear hreg
        have T4 : Touch w3 w4 F := p4.choose_spec.2.1
        have hrow4 : intOwn w4 w2.heap.size _ vs := ownsRow_touch HROW3.out T4 (fun g hg hs => by have := (int_lt HROW3.out g hg).1; have := HF3.out g hs; omega)
        have hU4 : intOwn w4 wr.heap.size _ (L.map WD.th) := ownsRow_touch HU.out T4 (fun g hg hs => by have := (int_lt HU.out g hg).1; have := HF3.out g hs; have := HSZ.out; omega)
        obtain ⟨F4, hP4⟩ := HP3.out.left p4
        clear p4 T4
        by_cases hv0 : vs = []
        · have e1 : regE L (t : Int) vs = (3, L) := by unfold regE; rw [if_neg hnn, if_pos hv0]
          rw [e1] at hP4 ⊢
          have hs4 : HidC _ _ _ _ _ := ⟨same_any hP4⟩
          have HT4 : Hid _ := hP4.t
          have hvl : vs.length = 0 := by rw [hv0]; rfl
          clear hP4 e1 hrow4 hU4 hv0
          rw [hvl]
          clear hvl
          go_wp2_with fail
          refine hs4.out.mono ?_
          rintro e w5 ⟨rfl, t5⟩
          have HT5 : Hid _ := HT4.out.trans t5 (by simp)
          clear hs4 t5
          go_wp2
          go_ret
          exact ⟨rfl, HT5.out⟩
        · cases hf : findW L (t : Int) with
          | some x =>
            have e1 : regE L (t : Int) vs = (6, L) := by unfold regE; rw [if_neg hnn, if_neg hv0, if_pos (by rw [hf]; rfl)]
            rw [e1] at hP4 ⊢
            have hs4 : HidC _ _ _ _ _ := ⟨same_any hP4⟩
            have HT4 : Hid _ := hP4.t
            have hmem : decide ((t : Int) ∈ L.map WD.th) = true := by
              obtain ⟨h5, h6⟩ := findW_some hf
              simpa using ⟨x, h5, h6⟩
            have HI : Hid (∀ W, Touch w4 W [] → HidC _ _ _ W _) := fun W T => ⟨in_any (irow_of (ownsRow_touch hU4 T (by simp))) (by rw [HLM.out]; omega) (t : Int)⟩
            rw [hmem, HLM.out] at HI
            clear hP4 e1 hrow4 hU4 hv0 hf hmem
            go_wp2_with fail
            refine hs4.out.mono ?_
            rintro e w5 ⟨rfl, t5⟩
            have HT5 : Hid _ := HT4.out.trans t5 (by simp)
            have hi5 := HI.out _ t5
            clear hs4 t5
            go_wp2_with fail
            refine hi5.out.mono ?_
            rintro e w6 ⟨rfl, rfl⟩
            clear hi5
            go_wp2
            go_ret
            exact ⟨rfl, HT5.out⟩
          | none =>
            have e1 : regE L (t : Int) vs = (0, L ++ [⟨(t : Int), setP vs, false⟩]) := by unfold regE; rw [if_neg hnn, if_neg hv0, if_neg (by rw [hf]; simp)]
            rw [e1] at hP4 ⊢
            have HP4 : Hid _ := hP4
            have HF4 : Hid _ := hf
            obtain ⟨ol, hol⟩ := of_reg L (t : Int) vs ⟨by omega, by omega⟩ hf HNO.out
            have HOL : Hid _ := hol
            clear hol
            have HR4 : Hid _ := hrow4
            obtain ⟨av3, cv3, ev3, hc3⟩ := int_form hrow4
            simp only [Value.slice.injEq, true_and] at ev3
            obtain ⟨rfl, rfl⟩ := ev3
            have HC3 : Hid _ := hc3
            obtain ⟨K, hK⟩ : ∃ K, K = vs.length := ⟨_, rfl⟩
            have HKK : Hid _ := hK
            rw [← hK] at hlv ⊢
            clear e1 hP4 hU4 hrow4 hc3 hf hK
            go_wp2_with fail
            go_loopw [15] (fun i wr => ∃ n : Nat, i = .int .i64 n ∧ n ≤ K ∧ Touch w4 wr []) (fun i _ => K - (intOf i).toNat)
            case atStart => exact ⟨0, rfl, Nat.zero_le _, Touch.refl _ _⟩
            case round =>
              obtain ⟨n, rfl, hn, hTn⟩ := hrel
              have HTn : Hid _ := hTn
              have hsn := hTn.size
              by_cases hnk : n < K
              · have n1 : (n : Int) < K := by omega
                have n0 : (0 : Int) ≤ n := by omega
                have hnl : n < vs.length := by rw [← HKK.out]; exact hnk
                have hvm := List.getElem_mem hnl
                have hfr := regs_for (L := L) (th := (t : Int)) hvm HNO.out
                have hof := HOL.out.2.1 _ hvm
                obtain ⟨gv, rfl, hgv, dv⟩ := HC3.out n hnl
                have dv2 := (hTn.cell (p := ⟨gv, n, none⟩) hgv (by simp)).trans dv
                have hA : HidC _ _ _ _ _ := ⟨at_any (HP4.out.keep hTn).l vs[n]⟩
                rw [hfr] at hA
                have HOF : Hid (∀ W, Touch w4 W [] → HidC _ _ _ W _) := fun W T => ⟨HOL.out.2.2 W _ _ _ (HP4.out.keep T).l⟩
                have hfl4 := Nat.le_trans (forP_len L (setP [vs[n]])) hln
                generalize vs[n] = y at *
                have HIN : Hid (∀ (W : World) (B : Nat) (v : Value), intOwn W B v ol → HidC Try.prog 21 #[v, .int .i64 y] W fun e w' => e = .returned (.bool true) ∧ W = w') := fun W B v hv => ⟨by
                  have h5 := in_any (irow_of hv) HOL.out.1 y
                  rw [hof] at h5
                  exact h5⟩
                generalize forP L (setP [y]) = fl at *
                clear hfr hof hvm dv hTn
                go_wp2_with fail
                refine hA.out.mono ?_
                rintro e w5 ⟨u5, rfl, hu5, t5⟩
                clear hA
                have T5 : Touch w4 w5 [] := HTn.out.trans t5 (by simp)
                have e5 := (t5.cell (p := ⟨gv, n, none⟩) (Nat.lt_of_lt_of_le hgv hsn) (by simp)).trans dv2
                obtain ⟨g5, c5, rfl, hg5, d6⟩ := last_form hu5
                generalize fl.length = Q at *
                have q1 : (Q : Int) < (Q : Int) + 1 := by omega
                have q0 : (0 : Int) ≤ (Q : Int) := by omega
                have q2 : (Q : Int) + 1 - 1 = (Q : Int) := by omega
                have q3 : IntKind.i64.wrap ((Q : Int) + 1 - 1) = (Q : Int) := by rw [IntKind.wrap_i64]; omega
                have q4 : IntKind.i64.wrap (Q : Int) = (Q : Int) := by rw [IntKind.wrap_i64]; omega
                have q5 : ¬ (Q : Int) + 1 = 0 := by omega
                have hof5 := HOF.out w5 T5
                have hgl := Nat.lt_of_lt_of_le hgv HTn.out.size
                have hgl5 : gv < w5.heap.size := Nat.lt_of_lt_of_le hgl t5.size
                have HK5 : Hid (∀ W, Touch w5 W [] → W.cell? ⟨g5, Q, none⟩ = some (.int .i64 (t : Int)) ∧ W.cell? ⟨gv, n, none⟩ = some (.int .i64 y)) := fun W T => ⟨(T.cell (p := ⟨g5, Q, none⟩) hg5 (by simp)).trans d6, (T.cell (p := ⟨gv, n, none⟩) hgl5 (by simp)).trans e5⟩
                have m0 := HK5.out _ ((Touch.refl w5 []).drew)
                have hof5d := HOF.out w5.drew (T5.trans (Touch.refl w5 []).drew (by simp))
                have HT5 : Hid _ := T5
                clear hu5 t5 T5 d6 hof5 hgl hgl5
                go_wp2_with fail
                go_region_held3 (fun w' => w'.cell? ⟨g5, Q, none⟩ = some (.int .i64 (t : Int)) ∧ w'.cell? ⟨gv, n, none⟩ = some (.int .i64 y)) (first | exact m0 | exact m1) (first
                  | (go_at_call 16; refine hof5d.out.mono ?_; rintro e w6 ⟨u6, rfl, hu6, t6⟩; have m1 := HK5.out w6 ((Touch.refl w5 []).drew.trans t6 (by simp)); have hi6 := HIN.out _ _ _ hu6; obtain ⟨a6, c6, rfl⟩ := owns_slice hu6)
                  | (go_at_call 21; refine hi6.out.mono ?_; rintro e w7 ⟨rfl, rfl⟩))
                have HT6 : Hid _ := HT5.out.trans ((Touch.refl w5 []).drew.trans t6 (by simp)) (by simp)
                clear hu6 t6 m0 m1 hi6 hof5d
                go_wp2
                go_roundw
                case rel => exact ⟨n + 1, by go_num, by omega, HT6.out⟩
                case measure => simp [intOf]; omega
              · obtain rfl : n = K := by omega
                have hPn := HP4.out.keep hTn
                have hsl : slP (L ++ [⟨(t : Int), setP vs, false⟩]) (t : Int) = false := by
                  unfold slP
                  rw [find_app (x := ⟨(t : Int), setP vs, false⟩) HF4.out, if_pos rfl]
                  rfl
                have hA : HidC _ _ _ _ _ := ⟨asleep_any hPn.l (t : Int) ⟨by omega, by omega⟩⟩
                rw [hsl] at hA
                have hCa : HidC _ _ _ _ _ := ⟨cancel_any hPn.l (t : Int) ⟨by omega, by omega⟩⟩
                have ec : cancelE (L ++ [⟨(t : Int), setP vs, false⟩]) (t : Int) = (0, L) := by
                  unfold cancelE
                  rw [if_neg (by simp [noTh]; omega), if_pos (by rw [find_app (x := ⟨(t : Int), setP vs, false⟩) HF4.out, if_pos rfl]; rfl), regs_back HF4.out]
                rw [ec] at hCa
                have HPn : Hid _ := hPn
                clear hTn hPn hsl ec
                go_wp2_with fail
                refine hA.out.mono ?_
                rintro e w5 ⟨rfl, rfl⟩
                clear hA
                go_wp2_with fail
                refine hCa.out.mono ?_
                rintro e w6 ⟨rfl, p6⟩
                clear hCa
                obtain ⟨F6, hP6⟩ := HPn.out.left p6
                have hs6 : HidC _ _ _ _ _ := ⟨same_any hP6⟩
                have HT6 : Hid _ := hP6.t
                clear p6 hP6
                go_wp2_with fail
                refine hs6.out.mono ?_
                rintro e w7 ⟨rfl, t7⟩
                have HT7 : Hid _ := HT6.out.trans t7 (by simp)
                clear hs6 t7
                go_wp2
                go_ret
                exact ⟨rfl, HT7.out⟩

end Go.Proofs.Yteffdibdnoppjaa
