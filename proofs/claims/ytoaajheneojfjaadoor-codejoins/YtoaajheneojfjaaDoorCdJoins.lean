/-
  CodeJoins, WALKED.
-/
import Derived.Test.YtoaajheneojfjaaDoorCdFew
import Derived.Laws.Concat
namespace Go.Proofs.YtoaajheneojfjaaDoor
set_option linter.unusedVariables false
set_option linter.unusedSimpArgs false
open Go.RowKit
attribute [local go_sem] Oper.semAt_some

set_option maxRecDepth 100000 in
set_option maxHeartbeats 2000000 in
theorem joins_any {w : World} (hwd : Wds w) {ao bo : Option Addr} {n0 cap m0 cbp : Nat} {l0 k0 : List InsD} (hl : InsIn w ao n0 cap l0) (hk : InsIn w bo m0 cbp k0) :
    Calls Tryd.prog 8 #[.slice ao n0 cap, .slice bo m0 cbp] w fun e w' => e = .returned (.bool true) ∧ Touch w w' [] := by
  have HL : Hid (∀ W, Touch w W [] → HidC Tryd.prog 16 #[] W fun e w' => e = .returned (.bool true) ∧ Touch W w' []) := fun W t => ⟨live_any (hwd.touch t (by simp))⟩
  have h1 : HidC _ _ _ _ _ := ⟨few_any hl⟩
  have h2 : HidC _ _ _ _ _ := ⟨few_any hk⟩
  clear hwd hl hk
  go_enter Tryd.func8, Tryd.ntmps8
  go_wp2_with fail
  refine h1.out.mono ?_
  rintro e _ ⟨n, rfl, hn, hl, rfl⟩
  have HLI : Hid _ := hl
  generalize l0.take 60 = l at *
  clear h1 hl
  go_wp2_with fail
  refine h2.out.mono ?_
  rintro e _ ⟨m, rfl, hm, hk, rfl⟩
  have HKI : Hid _ := hk
  generalize k0.take 60 = k at *
  have e1 : HidC _ _ _ _ _ := ⟨encode_in HLI.out (by omega)⟩
  have HSC : Hid (strOfNums (encL l ++ encL k) = strOfNums (encL l) ++ strOfNums (encL k)) := strOf_append _ _
  have HSZ : Hid ((strOfNums (encL l)).size + (strOfNums (encL k)).size ≤ 9223372036854775807) := by
    show _ ≤ _
    have q1 := encL_len l
    have q2 := encL_len k
    have q3 := HLI.out.len
    have q4 := HKI.out.len
    rw [strOfNums_size, strOfNums_size]
    omega
  have HE2 : Hid (∀ W, Touch w W [] → HidC Tryd.prog 21 #[.slice bo m cbp] W (EncP W (k.all rightI) (encL k).length (encL k))) := fun W t => ⟨encode_in (HKI.out.keep t) (by omega)⟩
  have HE3 : Hid (∀ W v, insOwn W w.heap.size v (l ++ k) → HidC Tryd.prog 21 #[v] W (EncP W (l.all rightI && k.all rightI) (encL l ++ encL k).length (encL l ++ encL k))) := fun W v hv => ⟨by
    obtain ⟨a4, c4, rfl, h4⟩ := insIn_of hv (fun i hi => by
      rcases List.mem_append.1 hi with q | q
      · exact HLI.out.wf i q
      · exact HKI.out.wf i q)
    have := encode_in h4 (by have e1 := HLI.out.len; have e2 := HKI.out.len; rw [List.length_append]; omega)
    rw [List.all_append, encL_append] at this
    exact this⟩
  have HAP : Hid (∀ W, Touch w W [] → ∃ a3 c3 W3 a4 c4 W4, (Builtin.append_ #[38, 38] 38 #[.slice (some ⟨W.heap.size, 0, none⟩) 0 0, .slice ao n cap]).run Tryd.prog (W.alloc (.cells #[] 26)) = .ok (.slice a3 n c3) W3 ∧ (Builtin.append_ #[38, 38] 38 #[.slice a3 n c3, .slice bo m cbp]).run Tryd.prog W3 = .ok (.slice a4 (n + m) c4) W4 ∧ insOwn W4 w.heap.size (.slice a4 (n + m) c4) (l ++ k) ∧ Touch w W4 []) := fun W t => by
    have tA : Touch w (W.alloc (.cells #[] 26)) [] := t.alloc _
    obtain ⟨a3, c3, W3, r3, o3, t3⟩ := ins_app (ins_empty W) (by simp) (by simp) (HLI.out.keep tA) (by omega) 38
    have T3 : Touch w W3 [] := tA.trans t3 (fun x hx => .inr (by simp [Value.ownBlock] at hx; have := t.size; omega))
    simp only [List.length_nil, Nat.zero_add, List.nil_append] at r3 o3
    obtain ⟨a4, c4, W4, r4, o4, t4⟩ := ins_app o3 (by have := HLI.out.len; omega) (by have := t3.size; simp at this; omega) (HKI.out.keep T3) (by omega) 38
    have T4 : Touch w W4 [] := T3.trans t4 (fun x hx => .inr (by
      rcases o3.2 with ⟨e5, _⟩ | ⟨g5, cap5, cur5, e5, hb5, _⟩
      · rw [e5] at hx; simp [Value.ownBlock] at hx
      · rw [e5] at hx; simp [Value.ownBlock] at hx; have := t.size; omega))
    have en := HLI.out.len
    rw [← en] at r4 o4
    refine ⟨a3, c3, W3, a4, c4, W4, r3, r4, ?_, T4⟩
    refine ⟨o4.1, ?_⟩
    rcases o4.2 with hn | ⟨g', cap', cur, e, hb, r⟩
    · exact .inl hn
    · exact .inr ⟨g', cap', cur, e, Nat.le_trans t.size hb, r⟩
  have HTT : Hid (∀ W, Touch w W [] → ∀ a3 c3 W3 a4 c4 W4, (Builtin.append_ #[38, 38] 38 #[.slice (some ⟨W.heap.size, 0, none⟩) 0 0, .slice ao n cap]).run Tryd.prog (W.alloc (.cells #[] 26)) = .ok (.slice a3 n c3) W3 → (Builtin.append_ #[38, 38] 38 #[.slice a3 n c3, .slice bo m cbp]).run Tryd.prog W3 = .ok (.slice a4 (n + m) c4) W4 → Touch W W4 []) := fun W t a3 c3 W3 a4 c4 W4 r3 r4 => by
    have tA : Touch W (W.alloc (.cells #[] 26)) [] := (Touch.refl W []).alloc _
    obtain ⟨a3', c3', W3', r3', o3, t3⟩ := ins_app (ins_empty W) (by simp) (by simp) (HLI.out.keep (t.trans tA (by simp))) (by omega) 38
    simp only [List.length_nil, Nat.zero_add, List.nil_append] at r3' o3
    rw [r3] at r3'
    simp only [Result.ok.injEq, Value.slice.injEq, true_and] at r3'
    obtain ⟨⟨rfl, rfl⟩, rfl⟩ := r3'
    have T3 : Touch W W3 [] := tA.trans t3 (fun x hx => .inr (by simp [Value.ownBlock] at hx; omega))
    obtain ⟨a4', c4', W4', r4', o4, t4⟩ := ins_app o3 (by have := HLI.out.len; omega) (by have := t3.size; simp at this; omega) (HKI.out.keep (t.trans T3 (by simp))) (by omega) 38
    have en := HLI.out.len
    rw [← en, r4] at r4'
    simp only [Result.ok.injEq, Value.slice.injEq, true_and] at r4'
    obtain ⟨_, rfl⟩ := r4'
    exact T3.trans t4 (fun x hx => .inr (by
      rcases o3.2 with ⟨e5, _⟩ | ⟨g5, cap5, cur5, e5, hb5, _⟩
      · rw [e5] at hx; simp [Value.ownBlock] at hx
      · rw [e5] at hx; simp [Value.ownBlock] at hx; omega))
  generalize l.all rightI = r1 at *
  generalize k.all rightI = r2 at *
  generalize encL l = bl at *
  generalize encL k = bk at *
  generalize bl.length = z1 at *
  generalize bk.length = z2 at *
  generalize (bl ++ bk).length = z3 at *
  clear h2 hk HLI HKI hn hm
  go_wp2_with fail
  refine e1.out.mono ?_
  clear e1
  rintro e w1 (⟨hr1, a1, c1, rfl, B1, t1⟩ | ⟨hr1, rfl, t1⟩)
  · have HT1 : Hid _ := t1
    have HB1 : Hid _ := B1
    subst hr1
    have e2 := HE2.out _ t1
    clear t1 B1
    go_wp2_with fail
    refine e2.out.mono ?_
    clear e2
    rintro e w2 (⟨hr2, a2, c2, rfl, B2, t2⟩ | ⟨hr2, rfl, t2⟩)
    · subst hr2
      have T2 : Touch w w2 [] := HT1.out.trans t2 (by simp)
      obtain ⟨a3, c3, W3, a4, c4, W4, r3, r4, o4, t4⟩ := HAP.out w2 T2
      have HT24 : Hid (Touch w2 W4 []) := HTT.out w2 T2 a3 c3 W3 a4 c4 W4 r3 r4
      have HBB : Hid (∀ W, Touch w2 W [] → BytAt W a1 z1 c1 bl ∧ BytAt W a2 z2 c2 bk) := fun W t => ⟨(HB1.out.keep t2).keep t, B2.keep t⟩
      have e3 := HE3.out _ _ o4
      have HT4 : Hid _ := t4
      clear t2 T2 o4 t4 HAP HE3 HTT
      go_wp2_with (at_builtin; first | (refine Lib.wpList_append_run _ rfl (.tmp 26) (.tmp 27) _ _ rfl _ _ rfl rfl _ _ r3 ?_) | (refine Lib.wpList_append_run _ rfl (.tmp 28) (.tmp 29) _ _ rfl _ _ rfl rfl _ _ r4 ?_))
      clear r3 r4
      refine e3.out.mono ?_
      clear e3
      rintro e w3 (⟨_, a5, c5, rfl, B5, t5⟩ | ⟨hr3, _⟩)
      · have T3 : Touch w w3 [] := HT4.out.trans t5 (by simp)
        have hlv := HL.out _ T3
        have HT3 : Hid _ := T3
        have HT25 : Hid _ := HT24.out.trans t5 (by simp)
        have HB5 : Hid _ := B5
        clear t5 T3 B5
        go_wp2_with fail
        refine hlv.out.mono ?_
        rintro e w4 ⟨rfl, t6⟩
        have q1 := (HBB.out _ (HT25.out.trans t6 (by simp))).1.str
        have q2 := (HBB.out _ (HT25.out.trans t6 (by simp))).2.str
        have q3 := (HB5.out.keep t6).str
        rw [HSC.out] at q3
        have HT5 : Hid _ := HT3.out.trans t6 (by simp)
        have hsz := HSZ.out
        generalize strOfNums bl = s1 at *
        generalize strOfNums bk = s2 at *
        have hsm := fun W : World => run_string_add_sum (P := Tryd.prog) (w := W) s1 s2 hsz
        clear hlv t6
        go_wp2
        go_ret
        exact ⟨rfl, HT5.out⟩
      · simp at hr3
    · subst hr2
      have T2 : Touch w w2 [] := HT1.out.trans t2 (by simp)
      obtain ⟨a3, c3, W3, a4, c4, W4, r3, r4, o4, t4⟩ := HAP.out w2 T2
      have e3 := HE3.out _ _ o4
      have HT4 : Hid _ := t4
      clear t2 T2 o4 t4 HAP HE3
      go_wp2_with (at_builtin; first | (refine Lib.wpList_append_run _ rfl (.tmp 26) (.tmp 27) _ _ rfl _ _ rfl rfl _ _ r3 ?_) | (refine Lib.wpList_append_run _ rfl (.tmp 28) (.tmp 29) _ _ rfl _ _ rfl rfl _ _ r4 ?_))
      clear r3 r4
      refine e3.out.mono ?_
      clear e3
      rintro e w3 (⟨hr3, _⟩ | ⟨_, rfl, t3⟩)
      · simp at hr3
      · have T3 : Touch w w3 [] := HT4.out.trans t3 (by simp)
        have hlv := HL.out _ T3
        have HT3 : Hid _ := T3
        clear t3 T3
        go_wp2_with fail
        refine hlv.out.mono ?_
        rintro e w4 ⟨rfl, t4⟩
        have HT5 : Hid _ := HT3.out.trans t4 (by simp)
        clear hlv t4
        go_wp2
        go_ret
        exact ⟨rfl, HT5.out⟩
  · have HT1 : Hid _ := t1
    subst hr1
    have e2 := HE2.out _ t1
    clear t1
    go_wp2_with fail
    refine e2.out.mono ?_
    clear e2
    rintro e w2 (⟨hr2, a2, c2, rfl, B2, t2⟩ | ⟨hr2, rfl, t2⟩)
    · subst hr2
      have T2 : Touch w w2 [] := HT1.out.trans t2 (by simp)
      obtain ⟨a3, c3, W3, a4, c4, W4, r3, r4, o4, t4⟩ := HAP.out w2 T2
      have e3 := HE3.out _ _ o4
      have HT4 : Hid _ := t4
      clear t2 T2 o4 t4 HAP HE3
      go_wp2_with (at_builtin; first | (refine Lib.wpList_append_run _ rfl (.tmp 26) (.tmp 27) _ _ rfl _ _ rfl rfl _ _ r3 ?_) | (refine Lib.wpList_append_run _ rfl (.tmp 28) (.tmp 29) _ _ rfl _ _ rfl rfl _ _ r4 ?_))
      clear r3 r4
      refine e3.out.mono ?_
      clear e3
      rintro e w3 (⟨hr3, _⟩ | ⟨_, rfl, t3⟩)
      · simp at hr3
      · have T3 : Touch w w3 [] := HT4.out.trans t3 (by simp)
        have hlv := HL.out _ T3
        have HT3 : Hid _ := T3
        clear t3 T3
        go_wp2_with fail
        refine hlv.out.mono ?_
        rintro e w4 ⟨rfl, t4⟩
        have HT5 : Hid _ := HT3.out.trans t4 (by simp)
        clear hlv t4
        go_wp2
        go_ret
        exact ⟨rfl, HT5.out⟩
    · subst hr2
      have T2 : Touch w w2 [] := HT1.out.trans t2 (by simp)
      obtain ⟨a3, c3, W3, a4, c4, W4, r3, r4, o4, t4⟩ := HAP.out w2 T2
      have e3 := HE3.out _ _ o4
      have HT4 : Hid _ := t4
      clear t2 T2 o4 t4 HAP HE3
      go_wp2_with (at_builtin; first | (refine Lib.wpList_append_run _ rfl (.tmp 26) (.tmp 27) _ _ rfl _ _ rfl rfl _ _ r3 ?_) | (refine Lib.wpList_append_run _ rfl (.tmp 28) (.tmp 29) _ _ rfl _ _ rfl rfl _ _ r4 ?_))
      clear r3 r4
      refine e3.out.mono ?_
      clear e3
      rintro e w3 (⟨hr3, _⟩ | ⟨_, rfl, t3⟩)
      · simp at hr3
      · have T3 : Touch w w3 [] := HT4.out.trans t3 (by simp)
        have hlv := HL.out _ T3
        have HT3 : Hid _ := T3
        clear t3 T3
        go_wp2_with fail
        refine hlv.out.mono ?_
        rintro e w4 ⟨rfl, t4⟩
        have HT5 : Hid _ := HT3.out.trans t4 (by simp)
        clear hlv t4
        go_wp2
        go_ret
        exact ⟨rfl, HT5.out⟩

end Go.Proofs.YtoaajheneojfjaaDoor
