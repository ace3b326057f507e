/-
  CodeBack, WALKED.
-/
import Derived.Test.YtminiabpeodjaaaDoorCdDecP
import Derived.Test.YtminiabpeodjaaaDoorCdSame
import Derived.Test.YtminiabpeodjaaaDoorCdTextP
namespace Go.Proofs.YtminiabpeodjaaaDoor
set_option linter.unusedVariables false
set_option linter.unusedSimpArgs false
open Go.RowKit
attribute [local go_sem] Oper.semAt_some

theorem print_size (i : InsD) (h : rightI i = true) (hw : i.Wf) : (printP i).size ≤ 100000 := by
  have h1 := wordP_size i.op hw.op.1
  unfold printP
  split
  · rename_i ha
    have h2 := argT_size i.arg (right_arg' h ha).1 (right_arg' h ha).2
    rw [ByteArray.size_append, ByteArray.size_append]
    show (wordP i.op).size + 1 + _ ≤ _
    omega
  · split
    · have h2 := hexT_size i.val
      rw [ByteArray.size_append, ByteArray.size_append]
      show (wordP i.op).size + 1 + _ ≤ _
      omega
    · omega
theorem encI_fit {i j : InsD} (hi : FitI i) (hj : FitI j) (wi : i.Wf) (wj : j.Wf) (h : encI i = encI j) : i = j := by
  have ho : i.op = j.op := encI_head (r := []) (s := []) (by simpa using h)
  obtain ⟨o, a, v⟩ := i
  obtain ⟨o', a', v'⟩ := j
  simp only at ho
  subst ho
  have hvi := wi.val
  have hvj := wj.val
  unfold Wf64 at hvi hvj
  simp only at hvi hvj
  unfold encI at h
  simp only [List.cons.injEq, true_and] at h
  cases hp : argP o with
  | true =>
    have h1 := hi.arg hp
    have h2 := hj.arg hp
    have hv := arg_val hp
    rw [hp, hv] at h
    simp at h h1 h2
    obtain ⟨_, _, rfl⟩ := h1
    obtain ⟨_, _, rfl⟩ := h2
    have : a = a' := by omega
    rw [this]
  | false =>
    have h1 := hi.none hp
    have h2 := hj.none hp
    simp only at h1 h2
    subst h1 h2
    cases hv : valP o with
    | true =>
      rw [hp, hv] at h
      simp only [Bool.false_eq_true, if_false, if_true, List.nil_append] at h
      have := valB_inj (by omega) (by omega) h
      have : v = v' := by omega
      rw [this]
    | false =>
      have h1 := hi.noval hv
      have h2 := hj.noval hv
      simp only at h1 h2
      subst h1 h2
      rfl
/-- What the bytes of right instructions say. -/
theorem fit_enc {i : InsD} (h : rightI i = true) (hw : i.Wf) (r : List Int) : fitOf (encI i ++ r) = i ∧ widthP i.op ≤ (encI i ++ r).length ∧ (encI i ++ r).drop (widthP i.op) = r := by
  have hl := encI_width i
  have hb := encI_byte hw
  refine ⟨?_, by rw [List.length_append]; omega, by rw [← hl]; simp⟩
  have ho : encI i ++ r = i.op :: ((encI i).drop 1 ++ r) := by unfold encI; simp
  have hw2 : widthP i.op ≤ (encI i).length := by omega
  have e0 : encI i = i.op :: (encI i).drop 1 := by unfold encI; simp
  obtain ⟨f1, f2, f3⟩ := fit_is (o := i.op) (r := (encI i).drop 1) (by rw [← e0]; exact hb) (by rw [← e0]; exact hw2)
  have hfe : fitOf (encI i ++ r) = fitOf (i.op :: (encI i).drop 1) := by
    rw [ho]
    unfold fitOf
    simp only [List.getD_cons_zero]
    cases ha : argP i.op with
    | true =>
      have hv := arg_val ha
      have hl2 : (encI i).length = 2 := by rw [hl]; unfold widthP; rw [ha, hv]; rfl
      obtain ⟨x, hx⟩ : ∃ x, (encI i).drop 1 = [x] := by
        match h5 : (encI i).drop 1 with
        | [x] => exact ⟨x, rfl⟩
        | [] => have := congrArg List.length h5; simp at this; omega
        | x :: y :: t => have := congrArg List.length h5; simp at this; omega
      rw [hx]
      simp [hv]
    | false =>
      cases hv : valP i.op with
      | false => simp
      | true =>
        have hl9 : (encI i).length = 9 := by rw [hl]; unfold widthP; rw [ha, hv]; rfl
        simp only [Bool.false_eq_true, if_false, if_true, List.drop_succ_cons, List.drop_zero]
        rw [List.take_append_of_le_length (by simp; omega)]
  rw [hfe]
  have hlt : (i.op :: (encI i).drop 1).take (widthP i.op) = encI i := by rw [← e0, ← hl, List.take_length]
  rw [hlt] at f1
  exact encI_fit f2 (fit_of h) f3 hw f1
theorem decF_enc : ∀ (f : Nat) (l : List InsD), (encL l).length ≤ f → (∀ i ∈ l, i.Wf) → (∀ i ∈ l, rightI i = true) → decF f (encL l) = some l
  | f, [], _, _, _ => by simp only [encL, List.flatMap_nil]; exact decF_nil f
  | 0, i :: l, hf, _, _ => by
    have : 0 < (encI i).length := by simp [encI]
    simp only [encL, List.flatMap_cons, List.length_append] at hf
    omega
  | f + 1, i :: l, hf, hw, hr => by
    have e : encL (i :: l) = encI i ++ encL l := by simp [encL]
    have hi := hw i (by simp)
    have hri := hr i (by simp)
    obtain ⟨h1, h2, h3⟩ := fit_enc hri hi (encL l)
    have hp := widthP_pos i.op
    rw [e] at hf ⊢
    have hc : encI i ++ encL l = i.op :: ((encI i).drop 1 ++ encL l) := by unfold encI; simp
    have hl := encI_width i
    rw [hc] at h1 h2 h3 hf ⊢
    rw [decF_on (by omega) (by rw [h1]; exact hri), h3, h1, decF_enc f l (by rw [← h3, List.length_drop]; omega) (fun j hj => hw j (by simp [hj])) (fun j hj => hr j (by simp [hj]))]
    rfl
theorem decP_enc {l : List InsD} (hw : ∀ i ∈ l, i.Wf) (hr : ∀ i ∈ l, rightI i = true) : decP (encL l) = some l := decF_enc _ l (Nat.le_refl _) hw hr

set_option maxRecDepth 100000 in
set_option maxHeartbeats 2000000 in
theorem back_any {w : World} (hwd : Wds w) (hev : Ev w) {ao bo : Option Addr} {n0 cap m0 cbp : Nat} {l0 : List InsD} {b0 : List Int} (hl : InsIn w ao n0 cap l0) (hb : BytAt w bo m0 cbp b0) (hbl : ByteL b0) :
    Calls Tryd.prog 6 #[.slice ao n0 cap, .slice bo m0 cbp] w fun e w' => e = .returned (.bool true) ∧ Touch w w' [] := by
  have HL : Hid (∀ W, Touch w W [] → HidC Tryd.prog 16 #[] W fun e w' => e = .returned (.bool true) ∧ Touch W w' []) := fun W t => ⟨live_any (hwd.touch t (by simp))⟩
  have HF : HidC _ _ _ _ _ := ⟨few_any hl⟩
  have HPR : Hid (∀ W, Touch w W [] → ∀ i : InsD, i.Wf → rightI i = true → HidC Tryd.prog 27 #[i.v] W fun e w' => e = .returned (.tuple #[.string (printP i), .int .i64 0]) ∧ Touch W w' []) := fun W t i hi hr => ⟨by
    have q := print_any (hwd.touch t (by simp)) (hev.touch t).z i hi
    unfold printA at q
    rw [if_pos hr] at q
    exact q⟩
  have HPS : Hid (∀ W, Touch w W [] → ∀ i : InsD, i.Wf → rightI i = true → HidC Tryd.prog 29 #[.string (printP i)] W fun e w' => e = .returned (.tuple #[i.v, .int .i64 0]) ∧ Touch W w' []) := fun W t i hi hr => ⟨by
    have q := parse_gen (hwd.touch t (by simp)) (hev.touch t) (printP i) (print_size i hr hi)
    rw [parse_print hr hi] at q
    exact q⟩
  have HBM : Hid _ := few_bytes hb
  have hle := hb.le
  have hmx := hb.max
  have hnil : 400 < m0 → ∃ a, bo = some a := fun h4 => by
    have hr : BRow w (.slice bo b0.length cbp) b0 := hb.row
    obtain ⟨g, off, e, _⟩ := hr.one 0 (by rw [← hb.len]; omega)
    exact ⟨_, e⟩
  have HBL : Hid (ByteL (b0.take 400)) := fun x hx => hbl x (List.mem_of_mem_take hx)
  have hb4 : (b0.take 400).length ≤ 1000 := by rw [List.length_take]; omega
  generalize b0.take 400 = b at *
  have HD : Hid (∀ W, Touch w W [] → HidC Tryd.prog 24 #[.slice bo (min m0 400) cbp] W (DecP W (decP b))) := fun W t => ⟨(decode_gen (HBM.out.keep t) HBL.out hb4).mono fun e w' h => decP_of HBL.out hb4 h⟩
  have HIS : Hid (∀ L, decP b = some L → L.all rightI = true ∧ encL L = b) := fun L hL => by
    obtain ⟨h1, h2, h3⟩ := decF_is _ _ L HBL.out hL
    exact ⟨List.all_eq_true.2 fun i hi => (h1 i hi).2, h3⟩
  have HSB : Hid (∀ W, Touch w W [] → (convert 39 9 (.slice bo (min m0 400) cbp)).run Tryd.prog W = .ok (.string (strOfNums b)) W) := fun W t => (HBM.out.keep t).str
  generalize decP b = R at *
  clear hwd hev hl hb hbl HBL hb4 HBM
  go_enter Tryd.func6, Tryd.ntmps6
  go_wp2_with fail
  refine HF.out.mono ?_
  rintro e _ ⟨m, rfl, hm, hI, rfl⟩
  have HI : Hid _ := hI
  generalize l0.take 60 = l at *
  clear hI HF
  have hen : HidC _ _ _ _ _ := ⟨encode_in HI.out (by omega)⟩
  have HEW : Hid (l.all rightI = true → ∀ i ∈ l, i.Wf ∧ rightI i = true) := fun h i hi => ⟨HI.out.wf i hi, List.all_eq_true.1 h i hi⟩
  have HEN : Hid ((encL l).length ≤ 600) := by
    show _ ≤ _
    have := encL_len l
    have q := HI.out.len
    omega
  have HDL : Hid (l.all rightI = true → ∀ W ao' cap', BytAt W ao' (encL l).length cap' (encL l) → HidC Tryd.prog 24 #[.slice ao' (encL l).length cap'] W (fun e w' => ∃ a c, e = .returned (.tuple #[.slice a m c, .int .i64 0]) ∧ InsIn w' a m c l ∧ Touch W w' [])) := fun hr W ao' cap' hB => ⟨by
    have hby := encL_byte HI.out.wf
    have hlen : (encL l).length ≤ 1000 := Nat.le_trans HEN.out (by omega)
    refine (decode_gen hB hby hlen).mono fun e w' h => ?_
    have hdl : decP (encL l) = some l := decP_enc HI.out.wf (List.all_eq_true.1 hr)
    rw [hdl] at h
    rcases h with ⟨L, hL, v, rfl, ho, t⟩ | ⟨hL, _⟩
    · simp only [Option.some.injEq] at hL
      subst hL
      obtain ⟨a, c, rfl, hi⟩ := insIn_of ho HI.out.wf
      rw [← HI.out.len] at hi
      exact ⟨a, c, by rw [HI.out.len], hi, t⟩
    · cases hL⟩
  clear HEN
  generalize hra : l.all rightI = ra at *
  generalize encL l = el at *
  generalize el.length = ez at *
  go_wp2_with fail
  refine hen.out.mono ?_
  clear hen
  rintro e w1 (⟨hr, a1, c1, rfl, B1, t1⟩ | ⟨hr, rfl, t1⟩)
  · subst hr
    have hdl := HDL.out (by simp) w1 a1 c1 B1
    have HW := HEW.out (by simp)
    have HWL : Hid _ := HW
    have HT1 : Hid _ := t1
    clear B1 t1 HDL HEW HW hra
    go_wp2_with fail
    refine hdl.out.mono ?_
    rintro e w2 ⟨a2, c2, rfl, I2, t2⟩
    have HT2 : Hid _ := HT1.out.trans t2 (by simp)
    have hsm : HidC _ _ _ _ _ := ⟨rsame_eq I2 (HI.out.keep HT2.out) (by omega)⟩
    clear hdl t2 I2
    go_wp2_with fail
    refine hsm.out.mono ?_
    rintro e w3 ⟨rfl, t3⟩
    have HT3 : Hid _ := HT2.out.trans t3 (by simp)
    clear hsm t3
    go_wp2_with fail
    go_loopw [9] (fun vi wr => ∃ k : Nat, vi = .int .i64 k ∧ k ≤ m ∧ Touch w wr []) (fun vi _ => m - (intOf vi).toNat)
    case atStart => exact ⟨0, rfl, Nat.zero_le _, HT3.out⟩
    case round =>
      obtain ⟨k, rfl, hk, hT⟩ := hrel
      have HT : Hid _ := hT
      by_cases hlt : k < m
      · have h1 : (k : Int) < m := by omega
        have h0 : (0 : Int) ≤ k := by omega
        have hkl : k < l.length := by rw [← HI.out.len]; exact hlt
        have hrow : InsRow w (.slice ao l.length cap) l := HI.out.row
        obtain ⟨g, off, rfl, d0, d1, d2⟩ := ins_at hrow hT (by simp) k hkl
        have HAT : Hid (∀ W, Touch w W [] → W.cell? ⟨g, off + k * 3, none⟩ = some (.int .u8 l[k].op) ∧ W.cell? ⟨g, off + k * 3 + 1, none⟩ = some (.int .i64 l[k].arg) ∧ W.cell? ⟨g, off + k * 3 + 2, none⟩ = some (.int .u64 l[k].val)) := fun W T => by
          obtain ⟨g', off', eg, f0, f1, f2⟩ := ins_at hrow T (by simp) k hkl
          simp only [Option.some.injEq, Addr.mk.injEq] at eg
          obtain ⟨rfl, rfl, _⟩ := eg
          exact ⟨f0, f1, f2⟩
        have hwk := HWL.out l[k] (List.getElem_mem hkl)
        generalize l[k] = i at *
        have hpr := HPR.out wr hT i hwk.1 hwk.2
        have HPI : Hid (∀ W, Touch w W [] → HidC Tryd.prog 29 #[.string (printP i)] W fun e w' => e = .returned (.tuple #[i.v, .int .i64 0]) ∧ Touch W w' []) := fun W t => HPS.out W t i hwk.1 hwk.2
        generalize printP i = ps at *
        obtain ⟨io, ia, iv⟩ := i
        simp only [InsD.v] at hpr HPI
        simp only at d0 d1 d2 HAT
        clear hT hwk hrow
        go_wp2_with fail
        refine hpr.out.mono ?_
        rintro e w4 ⟨rfl, t4⟩
        have T4 : Touch w w4 [] := HT.out.trans t4 (by simp)
        have hps := HPI.out w4 T4
        have HT4 : Hid _ := T4
        clear hpr t4 T4 d0 d1 d2 HPI
        go_wp2_with fail
        refine hps.out.mono ?_
        rintro e w5 ⟨rfl, t5⟩
        have T5 : Touch w w5 [] := HT4.out.trans t5 (by simp)
        have T6 : Touch w (w5.alloc (.cells #[.int .u8 io, .int .i64 ia, .int .u64 iv] 26)) [] := T5.alloc _
        obtain ⟨d0, d1, d2⟩ := HAT.out _ T6
        obtain ⟨x0, x1, x2⟩ := (BoxI.new w5 io ia iv).cells
        have HT6 : Hid _ := T6
        clear hps t5 T5 T6
        go_wp2_with fail
        generalize (w5.alloc (.cells #[.int .u8 io, .int .i64 ia, .int .u64 iv] 26)) = W6 at *
        go_quiet (fail)
        go_wp2
        go_roundw
        case rel => exact ⟨k + 1, by go_num, by omega, HT6.out.drewN _⟩
        case measure => simp [intOf]; omega
      · have h1 : ¬ (k : Int) < m := by omega
        clear hT
        by_cases h4 : 400 < m0
        · have h4' : (400 : Int) < m0 := by omega
          have h4c : (400 : Int) ≤ cbp := by omega
          have h4d : 400 ≤ cbp := by omega
          obtain ⟨a, rfl⟩ := hnil h4
          obtain ⟨ab, aof, af⟩ := a
          rw [Nat.min_eq_right (by omega)] at HD HSB
          clear hnil
          go_wp2_with fail
          refine (HD.out _ HT.out).out.mono ?_
          rintro e w7 (⟨L, z, hL, hz, a7, c7, rfl, I7, t7⟩ | ⟨hL, rfl, t7⟩)
          · have HQ := HIS.out L hL
            have h7 : HidC _ _ _ _ _ := ⟨encode_in I7 (by omega)⟩
            rw [HQ.1, HQ.2] at h7
            have HT7 : Hid _ := HT.out.trans t7 (by simp)
            clear t7 I7 HQ hL
            generalize b.length = bz at *
            go_wp2_with fail
            refine h7.out.mono ?_
            rintro e w8 (⟨_, a8, c8, rfl, B8, t8⟩ | ⟨hr, _⟩)
            · have HT8 : Hid _ := HT7.out.trans t8 (by simp)
              have HB8 : Hid _ := B8
              clear h7 t8 B8
              go_wp2_with fail
              refine (HL.out _ HT8.out).out.mono ?_
              rintro e w9 ⟨rfl, t9⟩
              have HT9 : Hid _ := HT8.out.trans t9 (by simp)
              have q1 := HSB.out _ HT9.out
              have q2 := (HB8.out.keep t9).str
              generalize strOfNums b = sb at *
              clear t9
              go_wp2
              go_ret
              exact ⟨rfl, HT9.out⟩
            · cases hr
          · have HT7 : Hid _ := HT.out.trans t7 (by simp)
            clear t7 hL
            go_wp2_with fail
            refine (HL.out _ HT7.out).out.mono ?_
            rintro e w9 ⟨rfl, t9⟩
            have HT9 : Hid _ := HT7.out.trans t9 (by simp)
            clear t9
            go_wp2
            go_ret
            exact ⟨rfl, HT9.out⟩
        · have h4' : ¬ (400 : Int) < m0 := by omega
          rw [Nat.min_eq_left (by omega)] at HD HSB
          clear hnil
          go_wp2_with fail
          refine (HD.out _ HT.out).out.mono ?_
          rintro e w7 (⟨L, z, hL, hz, a7, c7, rfl, I7, t7⟩ | ⟨hL, rfl, t7⟩)
          · have HQ := HIS.out L hL
            have h7 : HidC _ _ _ _ _ := ⟨encode_in I7 (by omega)⟩
            rw [HQ.1, HQ.2] at h7
            have HT7 : Hid _ := HT.out.trans t7 (by simp)
            clear t7 I7 HQ hL
            generalize b.length = bz at *
            go_wp2_with fail
            refine h7.out.mono ?_
            rintro e w8 (⟨_, a8, c8, rfl, B8, t8⟩ | ⟨hr, _⟩)
            · have HT8 : Hid _ := HT7.out.trans t8 (by simp)
              have HB8 : Hid _ := B8
              clear h7 t8 B8
              go_wp2_with fail
              refine (HL.out _ HT8.out).out.mono ?_
              rintro e w9 ⟨rfl, t9⟩
              have HT9 : Hid _ := HT8.out.trans t9 (by simp)
              have q1 := HSB.out _ HT9.out
              have q2 := (HB8.out.keep t9).str
              generalize strOfNums b = sb at *
              clear t9
              go_wp2
              go_ret
              exact ⟨rfl, HT9.out⟩
            · cases hr
          · have HT7 : Hid _ := HT.out.trans t7 (by simp)
            clear t7 hL
            go_wp2_with fail
            refine (HL.out _ HT7.out).out.mono ?_
            rintro e w9 ⟨rfl, t9⟩
            have HT9 : Hid _ := HT7.out.trans t9 (by simp)
            clear t9
            go_wp2
            go_ret
            exact ⟨rfl, HT9.out⟩
  · subst hr
    have HT : Hid _ := t1
    clear t1 HDL HEW hra
    by_cases h4 : 400 < m0
    · have h4' : (400 : Int) < m0 := by omega
      have h4c : (400 : Int) ≤ cbp := by omega
      have h4d : 400 ≤ cbp := by omega
      obtain ⟨a, rfl⟩ := hnil h4
      obtain ⟨ab, aof, af⟩ := a
      rw [Nat.min_eq_right (by omega)] at HD HSB
      clear hnil
      go_wp2_with fail
      refine (HD.out _ HT.out).out.mono ?_
      rintro e w7 (⟨L, z, hL, hz, a7, c7, rfl, I7, t7⟩ | ⟨hL, rfl, t7⟩)
      · have HQ := HIS.out L hL
        have h7 : HidC _ _ _ _ _ := ⟨encode_in I7 (by omega)⟩
        rw [HQ.1, HQ.2] at h7
        have HT7 : Hid _ := HT.out.trans t7 (by simp)
        clear t7 I7 HQ hL
        generalize b.length = bz at *
        go_wp2_with fail
        refine h7.out.mono ?_
        rintro e w8 (⟨_, a8, c8, rfl, B8, t8⟩ | ⟨hr, _⟩)
        · have HT8 : Hid _ := HT7.out.trans t8 (by simp)
          have HB8 : Hid _ := B8
          clear h7 t8 B8
          go_wp2_with fail
          refine (HL.out _ HT8.out).out.mono ?_
          rintro e w9 ⟨rfl, t9⟩
          have HT9 : Hid _ := HT8.out.trans t9 (by simp)
          have q1 := HSB.out _ HT9.out
          have q2 := (HB8.out.keep t9).str
          generalize strOfNums b = sb at *
          clear t9
          go_wp2
          go_ret
          exact ⟨rfl, HT9.out⟩
        · cases hr
      · have HT7 : Hid _ := HT.out.trans t7 (by simp)
        clear t7 hL
        go_wp2_with fail
        refine (HL.out _ HT7.out).out.mono ?_
        rintro e w9 ⟨rfl, t9⟩
        have HT9 : Hid _ := HT7.out.trans t9 (by simp)
        clear t9
        go_wp2
        go_ret
        exact ⟨rfl, HT9.out⟩
    · have h4' : ¬ (400 : Int) < m0 := by omega
      rw [Nat.min_eq_left (by omega)] at HD HSB
      clear hnil
      go_wp2_with fail
      refine (HD.out _ HT.out).out.mono ?_
      rintro e w7 (⟨L, z, hL, hz, a7, c7, rfl, I7, t7⟩ | ⟨hL, rfl, t7⟩)
      · have HQ := HIS.out L hL
        have h7 : HidC _ _ _ _ _ := ⟨encode_in I7 (by omega)⟩
        rw [HQ.1, HQ.2] at h7
        have HT7 : Hid _ := HT.out.trans t7 (by simp)
        clear t7 I7 HQ hL
        generalize b.length = bz at *
        go_wp2_with fail
        refine h7.out.mono ?_
        rintro e w8 (⟨_, a8, c8, rfl, B8, t8⟩ | ⟨hr, _⟩)
        · have HT8 : Hid _ := HT7.out.trans t8 (by simp)
          have HB8 : Hid _ := B8
          clear h7 t8 B8
          go_wp2_with fail
          refine (HL.out _ HT8.out).out.mono ?_
          rintro e w9 ⟨rfl, t9⟩
          have HT9 : Hid _ := HT8.out.trans t9 (by simp)
          have q1 := HSB.out _ HT9.out
          have q2 := (HB8.out.keep t9).str
          generalize strOfNums b = sb at *
          clear t9
          go_wp2
          go_ret
          exact ⟨rfl, HT9.out⟩
        · cases hr
      · have HT7 : Hid _ := HT.out.trans t7 (by simp)
        clear t7 hL
        go_wp2_with fail
        refine (HL.out _ HT7.out).out.mono ?_
        rintro e w9 ⟨rfl, t9⟩
        have HT9 : Hid _ := HT7.out.trans t9 (by simp)
        clear t9
        go_wp2
        go_ret
        exact ⟨rfl, HT9.out⟩

end Go.Proofs.YtminiabpeodjaaaDoor
