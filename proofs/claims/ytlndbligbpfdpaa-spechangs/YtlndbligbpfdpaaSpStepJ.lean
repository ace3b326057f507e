/-
  package spec: step BY ITS CONTRACT, Jump and IfZero. Written by mkstep.py.
-/
import Derived.Test.YtlndbligbpfdpaaSpStepR
namespace Go.Proofs.Ytlndbligbpfdpaa
set_option linter.unusedVariables false
set_option linter.unusedSimpArgs false
open Go.RowKit
attribute [local go_sem] Oper.semAt_some

set_option maxRecDepth 100000 in
set_option maxHeartbeats 2000000 in
theorem step_jump {w : World} {b B : Nat} {T : TypeId} {tl : List Value} {vo : Value} {ap : Option Addr} {np cp : Nat} {ao : Option Addr} {n cap : Nat} {D : WD} (h : WOwn w b B T tl (.slice ao n cap) vo (.slice ap np cp) D) (hn : n ≤ 1000) (hpc : 0 ≤ D.pc ∧ D.pc < 9223372036854775807) {ia iv : Int} (hh : Calls Try.prog 40 #[.pointer (some ⟨b, 0, none⟩)] w fun e w' => e = .returned (.agg #[.int .u8 19, .int .i64 ia, .int .u64 iv]) ∧ Touch w w' []) (hf : fitsW 19 n = true) (ha : ia ≤ np) :
    Calls Try.prog 24 #[.pointer (some ⟨b, 0, none⟩)] w (StepP w b B T tl (.slice ao n cap) vo (.slice ap np cp) { D with st := D.st.take (n - 0) ++ [], pc := ia }) := by
  have HH : HidC _ _ _ _ _ := ⟨hh⟩
  have HG : Hid (∀ W, HidC Try.prog 42 #[.int .u8 19] W fun e w' => e = .returned (.bool true) ∧ W = w') := fun W => ⟨hangs_any 19 W⟩
  have hlen : D.st.length = n := by
    obtain ⟨a5, c5, e⟩ := owns_slice h.s
    simp only [Value.slice.injEq] at e
    exact e.2.1.symm
  have hpn : 0 ≤ n := by
    unfold fitsW at hf
    simp only [Bool.and_eq_true, decide_eq_true_eq] at hf
    have h5 : popV 19 = 0 := rfl
    omega
  have HP : Hid (∀ W, Touch w W [] → HidC Try.prog 43 #[.pointer (some ⟨b, 0, none⟩), .int .u8 19] W fun e w' => (∃ a c, e = .returned (.slice a 0 c) ∧ VRow W (.slice a 0 c) (D.st.drop (n - 0))) ∧ W = w') := fun W t => ⟨popped_ok (h.o.touch t (by simp)) (ownsRow_touch h.s t (by simp)) hn 19 hf⟩
  have HU : Hid (∀ W a c, HidC Try.prog 47 #[.pointer (some ⟨b, 0, none⟩), .agg #[.int .u8 19, .int .i64 ia, .int .u64 iv], .slice a 0 c] W (PushP W [])) := fun W a c => ⟨pushed_none 19 ia iv _ (by decide)⟩
  have HX : Hid (∀ W a2 m c2 pu, Touch w W [] → VRow W (.slice a2 m c2) pu → m = pu.length → m ≤ 1000 → HidC Try.prog 46 #[.pointer (some ⟨b, 0, none⟩), .int .i64 0, .slice a2 m c2] W (ExchP W b B T tl (.slice ao n cap) vo (.slice ap np cp) { D with st := D.st.take (n - 0) ++ pu })) := fun W a2 m c2 pu t hr hm hm2 => ⟨exchange_any (h.o.touch t (by simp)) (ownsRow_touch h.s t (by simp)) (Nat.le_trans h.hB t.size) h.hb hn 0 hpn hr hm hm2⟩
  have HC : Hid (∀ W, Touch w W [] → W.cell? ⟨b, 0, none⟩ = some (.int .i64 D.pc)) := fun W t => (h.o.touch t (by simp)).cells.c0
  have hwr : IntKind.i64.wrap (D.pc + 1) = D.pc + 1 := by rw [IntKind.wrap_i64]; omega
  have HO : Hid _ := h
  have HD : Hid (∀ W : World, ∀ v' D2, WObj W b T tl v' vo (.slice ap np cp) D2 → W.cell? ⟨b, 0, none⟩ = some (.int .i64 D2.pc) ∧ W.frozen? ⟨b, 0, none⟩ = false) := fun W v' D2 q => ⟨q.cells.c0, q.fr 0⟩
  have HTG : Hid (∀ W, Touch w W [] → HidC Try.prog 44 #[.pointer (some ⟨b, 0, none⟩), .int .i64 ia] W fun e w' => e = .returned (.int .i64 ia) ∧ W = w') := fun W t => ⟨target_ok (h.o.touch t (by simp)) ia ha⟩
  clear hh h hf hpn hn
  go_enter Try.func24, Try.ntmps24
  go_wp2_with fail
  refine HH.out.mono ?_
  rintro e w1 ⟨rfl, t1⟩
  clear HH
  have HT : Hid (Touch w (w1.alloc (.cells #[.int .u8 19, .int .i64 ia, .int .u64 iv] 48)) []) := t1.alloc _
  obtain ⟨x0, x1, x2⟩ := (BoxI.new w1 19 ia iv).cells
  have c0 := HC.out _ HT.out
  go_wp2_with fail
  refine (HG.out _).out.mono ?_
  rintro e _ ⟨rfl, rfl⟩
  clear HG
  go_wp2_with fail
  refine (sneed_ok 3 _).mono ?_
  rintro e _ ⟨rfl, rfl⟩
  go_wp2_with fail
  refine (HP.out _ HT.out).out.mono ?_
  rintro e _ ⟨⟨a, c, rfl, hr⟩, rfl⟩
  go_wp2_with fail
  refine (HTG.out _ HT.out).out.mono ?_
  rintro e _ ⟨rfl, rfl⟩
  go_wp2_with fail
  refine (HU.out _ _ c).out.mono ?_
  rintro e w3 ⟨v3, rfl, o3, t3⟩
  clear HU
  obtain ⟨a2, c2, rfl⟩ := owns_slice o3
  have HT3 : Hid (Touch w w3 []) := HT.out.trans t3 (by simp)
  have HX3 : HidC _ _ _ _ _ := HX.out w3 a2 _ c2 [] HT3.out (vrow_of o3) rfl (by simp)
  clear HX o3 t3 c0 x0 x1 x2
  go_wp2_with fail
  refine HX3.out.mono ?_
  rintro e w4 ⟨rfl, hx⟩
  clear HX3
  have HF : Hid _ := step_tail (D2 := { D with st := D.st.take (n - 0) ++ [] }) HO.out HT3.out rfl hx (ia)
  obtain ⟨v', h4, _⟩ := hx
  obtain ⟨d0, d1⟩ := HD.out _ _ _ h4
  go_wp2
  go_end0
  exact ⟨rfl, HF.out.2⟩

set_option maxRecDepth 100000 in
set_option maxHeartbeats 2000000 in
theorem step_jump_no {w : World} {b B : Nat} {T : TypeId} {tl : List Value} {vo : Value} {ap : Option Addr} {np cp : Nat} {ao : Option Addr} {n cap : Nat} {D : WD} (h : WOwn w b B T tl (.slice ao n cap) vo (.slice ap np cp) D) (hn : n ≤ 1000) (hpc : 0 ≤ D.pc ∧ D.pc < 9223372036854775807) {ia iv : Int} (hh : Calls Try.prog 40 #[.pointer (some ⟨b, 0, none⟩)] w fun e w' => e = .returned (.agg #[.int .u8 19, .int .i64 ia, .int .u64 iv]) ∧ Touch w w' []) (hf : fitsW 19 n = true) (ha : ¬ ia ≤ np) :
    Calls Try.prog 24 #[.pointer (some ⟨b, 0, none⟩)] w (StuckP 2 w) := by
  have HH : HidC _ _ _ _ _ := ⟨hh⟩
  have HG : Hid (∀ W, HidC Try.prog 42 #[.int .u8 19] W fun e w' => e = .returned (.bool true) ∧ W = w') := fun W => ⟨hangs_any 19 W⟩
  have hlen : D.st.length = n := by
    obtain ⟨a5, c5, e⟩ := owns_slice h.s
    simp only [Value.slice.injEq] at e
    exact e.2.1.symm
  have hpn : 0 ≤ n := by
    unfold fitsW at hf
    simp only [Bool.and_eq_true, decide_eq_true_eq] at hf
    have h5 : popV 19 = 0 := rfl
    omega
  have HP : Hid (∀ W, Touch w W [] → HidC Try.prog 43 #[.pointer (some ⟨b, 0, none⟩), .int .u8 19] W fun e w' => (∃ a c, e = .returned (.slice a 0 c) ∧ VRow W (.slice a 0 c) (D.st.drop (n - 0))) ∧ W = w') := fun W t => ⟨popped_ok (h.o.touch t (by simp)) (ownsRow_touch h.s t (by simp)) hn 19 hf⟩
  have HU : Hid (∀ W a c, HidC Try.prog 47 #[.pointer (some ⟨b, 0, none⟩), .agg #[.int .u8 19, .int .i64 ia, .int .u64 iv], .slice a 0 c] W (PushP W [])) := fun W a c => ⟨pushed_none 19 ia iv _ (by decide)⟩
  have HX : Hid (∀ W a2 m c2 pu, Touch w W [] → VRow W (.slice a2 m c2) pu → m = pu.length → m ≤ 1000 → HidC Try.prog 46 #[.pointer (some ⟨b, 0, none⟩), .int .i64 0, .slice a2 m c2] W (ExchP W b B T tl (.slice ao n cap) vo (.slice ap np cp) { D with st := D.st.take (n - 0) ++ pu })) := fun W a2 m c2 pu t hr hm hm2 => ⟨exchange_any (h.o.touch t (by simp)) (ownsRow_touch h.s t (by simp)) (Nat.le_trans h.hB t.size) h.hb hn 0 hpn hr hm hm2⟩
  have HC : Hid (∀ W, Touch w W [] → W.cell? ⟨b, 0, none⟩ = some (.int .i64 D.pc)) := fun W t => (h.o.touch t (by simp)).cells.c0
  have hwr : IntKind.i64.wrap (D.pc + 1) = D.pc + 1 := by rw [IntKind.wrap_i64]; omega
  have HO : Hid _ := h
  have HD : Hid (∀ W : World, ∀ v' D2, WObj W b T tl v' vo (.slice ap np cp) D2 → W.cell? ⟨b, 0, none⟩ = some (.int .i64 D2.pc) ∧ W.frozen? ⟨b, 0, none⟩ = false) := fun W v' D2 q => ⟨q.cells.c0, q.fr 0⟩
  have HTG : Hid (∀ W, Touch w W [] → HidC Try.prog 44 #[.pointer (some ⟨b, 0, none⟩), .int .i64 ia] W (StuckP 2 W)) := fun W t => ⟨target_no (h.o.touch t (by simp)) ia ha⟩
  clear hh h hf hpn hn
  go_enter Try.func24, Try.ntmps24
  go_wp2_with fail
  refine HH.out.mono ?_
  rintro e w1 ⟨rfl, t1⟩
  clear HH
  have HT : Hid (Touch w (w1.alloc (.cells #[.int .u8 19, .int .i64 ia, .int .u64 iv] 48)) []) := t1.alloc _
  obtain ⟨x0, x1, x2⟩ := (BoxI.new w1 19 ia iv).cells
  have c0 := HC.out _ HT.out
  go_wp2_with fail
  refine (HG.out _).out.mono ?_
  rintro e _ ⟨rfl, rfl⟩
  clear HG
  go_wp2_with fail
  refine (sneed_ok 3 _).mono ?_
  rintro e _ ⟨rfl, rfl⟩
  go_wp2_with fail
  refine (HP.out _ HT.out).out.mono ?_
  rintro e _ ⟨⟨a, c, rfl, hr⟩, rfl⟩
  go_wp2_with fail
  refine (HTG.out _ HT.out).out.mono ?_
  rintro e w2 ⟨rfl, t2⟩
  exact ⟨rfl, rfl, HT.out.trans t2 (by simp)⟩

set_option maxRecDepth 100000 in
set_option maxHeartbeats 2000000 in
theorem step_zero_stay {w : World} {b B : Nat} {T : TypeId} {tl : List Value} {vo : Value} {ap : Option Addr} {np cp : Nat} {ao : Option Addr} {n cap : Nat} {D : WD} (h : WOwn w b B T tl (.slice ao n cap) vo (.slice ap np cp) D) (hn : n ≤ 1000) (hpc : 0 ≤ D.pc ∧ D.pc < 9223372036854775807) {ia iv : Int} (hh : Calls Try.prog 40 #[.pointer (some ⟨b, 0, none⟩)] w fun e w' => e = .returned (.agg #[.int .u8 20, .int .i64 ia, .int .u64 iv]) ∧ Touch w w' []) (hf : fitsW 20 n = true) (htr : truthB (classB (ofB (D.st.getD (n - 1) 0).toNat)) = true) :
    Calls Try.prog 24 #[.pointer (some ⟨b, 0, none⟩)] w (StepP w b B T tl (.slice ao n cap) vo (.slice ap np cp) { D with st := D.st.take (n - 1) ++ [], pc := D.pc + 1 }) := by
  have HH : HidC _ _ _ _ _ := ⟨hh⟩
  have HG : Hid (∀ W, HidC Try.prog 42 #[.int .u8 20] W fun e w' => e = .returned (.bool true) ∧ W = w') := fun W => ⟨hangs_any 20 W⟩
  have hlen : D.st.length = n := by
    obtain ⟨a5, c5, e⟩ := owns_slice h.s
    simp only [Value.slice.injEq] at e
    exact e.2.1.symm
  have hpn : 1 ≤ n := by
    unfold fitsW at hf
    simp only [Bool.and_eq_true, decide_eq_true_eq] at hf
    have h5 : popV 20 = 1 := rfl
    omega
  have HP : Hid (∀ W, Touch w W [] → HidC Try.prog 43 #[.pointer (some ⟨b, 0, none⟩), .int .u8 20] W fun e w' => (∃ a c, e = .returned (.slice a 1 c) ∧ VRow W (.slice a 1 c) (D.st.drop (n - 1))) ∧ W = w') := fun W t => ⟨popped_ok (h.o.touch t (by simp)) (ownsRow_touch h.s t (by simp)) hn 20 hf⟩
  have HU : Hid (∀ W a c, HidC Try.prog 47 #[.pointer (some ⟨b, 0, none⟩), .agg #[.int .u8 20, .int .i64 ia, .int .u64 iv], .slice a 1 c] W (PushP W [])) := fun W a c => ⟨pushed_none 20 ia iv _ (by decide)⟩
  have HX : Hid (∀ W a2 m c2 pu, Touch w W [] → VRow W (.slice a2 m c2) pu → m = pu.length → m ≤ 1000 → HidC Try.prog 46 #[.pointer (some ⟨b, 0, none⟩), .int .i64 1, .slice a2 m c2] W (ExchP W b B T tl (.slice ao n cap) vo (.slice ap np cp) { D with st := D.st.take (n - 1) ++ pu })) := fun W a2 m c2 pu t hr hm hm2 => ⟨exchange_any (h.o.touch t (by simp)) (ownsRow_touch h.s t (by simp)) (Nat.le_trans h.hB t.size) h.hb hn 1 hpn hr hm hm2⟩
  have HC : Hid (∀ W, Touch w W [] → W.cell? ⟨b, 0, none⟩ = some (.int .i64 D.pc)) := fun W t => (h.o.touch t (by simp)).cells.c0
  have hwr : IntKind.i64.wrap (D.pc + 1) = D.pc + 1 := by rw [IntKind.wrap_i64]; omega
  have HO : Hid _ := h
  have HD : Hid (∀ W : World, ∀ v' D2, WObj W b T tl v' vo (.slice ap np cp) D2 → W.cell? ⟨b, 0, none⟩ = some (.int .i64 D2.pc) ∧ W.frozen? ⟨b, 0, none⟩ = false) := fun W v' D2 q => ⟨q.cells.c0, q.fr 0⟩
  have HTR : Hid (∀ W, HidC Try.prog 45 #[.int .u64 (D.st.getD (n - 1) 0)] W fun e w' => e = .returned (.bool true) ∧ W = w') := fun W => ⟨by have q := truth_any (D.st.getD (n - 1) 0) W; rw [htr] at q; exact q⟩
  have hn1 : 1 ≤ n := hpn
  clear hh h hf hpn hn
  go_enter Try.func24, Try.ntmps24
  go_wp2_with fail
  refine HH.out.mono ?_
  rintro e w1 ⟨rfl, t1⟩
  clear HH
  have HT : Hid (Touch w (w1.alloc (.cells #[.int .u8 20, .int .i64 ia, .int .u64 iv] 48)) []) := t1.alloc _
  obtain ⟨x0, x1, x2⟩ := (BoxI.new w1 20 ia iv).cells
  have c0 := HC.out _ HT.out
  go_wp2_with fail
  refine (HG.out _).out.mono ?_
  rintro e _ ⟨rfl, rfl⟩
  clear HG
  go_wp2_with fail
  refine (sneed_ok 3 _).mono ?_
  rintro e _ ⟨rfl, rfl⟩
  go_wp2_with fail
  refine (HP.out _ HT.out).out.mono ?_
  rintro e _ ⟨⟨a, c, rfl, hr⟩, rfl⟩
  have hgd : (D.st.drop (n - 1)).getD 0 0 = D.st.getD (n - 1) 0 := by simp [List.getD]
  obtain ⟨g, off, rfl, hc⟩ := vrow_at hr (by rw [List.length_drop]; omega) (by omega)
  have hc0 := hc 0 (by omega)
  rw [hgd, Nat.add_zero] at hc0
  clear hc hgd hr
  go_wp2_with fail
  refine (HTR.out _).out.mono ?_
  rintro e _ ⟨rfl, rfl⟩
  go_wp2_with fail
  refine (HU.out _ _ c).out.mono ?_
  rintro e w3 ⟨v3, rfl, o3, t3⟩
  clear HU
  obtain ⟨a2, c2, rfl⟩ := owns_slice o3
  have HT3 : Hid (Touch w w3 []) := HT.out.trans t3 (by simp)
  have HX3 : HidC _ _ _ _ _ := HX.out w3 a2 _ c2 [] HT3.out (vrow_of o3) rfl (by simp)
  clear HX o3 t3 c0 x0 x1 x2
  go_wp2_with fail
  refine HX3.out.mono ?_
  rintro e w4 ⟨rfl, hx⟩
  clear HX3
  have HF : Hid _ := step_tail (D2 := { D with st := D.st.take (n - 1) ++ [] }) HO.out HT3.out rfl hx (D.pc + 1)
  obtain ⟨v', h4, _⟩ := hx
  obtain ⟨d0, d1⟩ := HD.out _ _ _ h4
  go_wp2
  go_end0
  exact ⟨rfl, HF.out.2⟩

set_option maxRecDepth 100000 in
set_option maxHeartbeats 2000000 in
theorem step_zero_go {w : World} {b B : Nat} {T : TypeId} {tl : List Value} {vo : Value} {ap : Option Addr} {np cp : Nat} {ao : Option Addr} {n cap : Nat} {D : WD} (h : WOwn w b B T tl (.slice ao n cap) vo (.slice ap np cp) D) (hn : n ≤ 1000) (hpc : 0 ≤ D.pc ∧ D.pc < 9223372036854775807) {ia iv : Int} (hh : Calls Try.prog 40 #[.pointer (some ⟨b, 0, none⟩)] w fun e w' => e = .returned (.agg #[.int .u8 20, .int .i64 ia, .int .u64 iv]) ∧ Touch w w' []) (hf : fitsW 20 n = true) (htr : truthB (classB (ofB (D.st.getD (n - 1) 0).toNat)) = false) (ha : ia ≤ np) :
    Calls Try.prog 24 #[.pointer (some ⟨b, 0, none⟩)] w (StepP w b B T tl (.slice ao n cap) vo (.slice ap np cp) { D with st := D.st.take (n - 1) ++ [], pc := ia }) := by
  have HH : HidC _ _ _ _ _ := ⟨hh⟩
  have HG : Hid (∀ W, HidC Try.prog 42 #[.int .u8 20] W fun e w' => e = .returned (.bool true) ∧ W = w') := fun W => ⟨hangs_any 20 W⟩
  have hlen : D.st.length = n := by
    obtain ⟨a5, c5, e⟩ := owns_slice h.s
    simp only [Value.slice.injEq] at e
    exact e.2.1.symm
  have hpn : 1 ≤ n := by
    unfold fitsW at hf
    simp only [Bool.and_eq_true, decide_eq_true_eq] at hf
    have h5 : popV 20 = 1 := rfl
    omega
  have HP : Hid (∀ W, Touch w W [] → HidC Try.prog 43 #[.pointer (some ⟨b, 0, none⟩), .int .u8 20] W fun e w' => (∃ a c, e = .returned (.slice a 1 c) ∧ VRow W (.slice a 1 c) (D.st.drop (n - 1))) ∧ W = w') := fun W t => ⟨popped_ok (h.o.touch t (by simp)) (ownsRow_touch h.s t (by simp)) hn 20 hf⟩
  have HU : Hid (∀ W a c, HidC Try.prog 47 #[.pointer (some ⟨b, 0, none⟩), .agg #[.int .u8 20, .int .i64 ia, .int .u64 iv], .slice a 1 c] W (PushP W [])) := fun W a c => ⟨pushed_none 20 ia iv _ (by decide)⟩
  have HX : Hid (∀ W a2 m c2 pu, Touch w W [] → VRow W (.slice a2 m c2) pu → m = pu.length → m ≤ 1000 → HidC Try.prog 46 #[.pointer (some ⟨b, 0, none⟩), .int .i64 1, .slice a2 m c2] W (ExchP W b B T tl (.slice ao n cap) vo (.slice ap np cp) { D with st := D.st.take (n - 1) ++ pu })) := fun W a2 m c2 pu t hr hm hm2 => ⟨exchange_any (h.o.touch t (by simp)) (ownsRow_touch h.s t (by simp)) (Nat.le_trans h.hB t.size) h.hb hn 1 hpn hr hm hm2⟩
  have HC : Hid (∀ W, Touch w W [] → W.cell? ⟨b, 0, none⟩ = some (.int .i64 D.pc)) := fun W t => (h.o.touch t (by simp)).cells.c0
  have hwr : IntKind.i64.wrap (D.pc + 1) = D.pc + 1 := by rw [IntKind.wrap_i64]; omega
  have HO : Hid _ := h
  have HD : Hid (∀ W : World, ∀ v' D2, WObj W b T tl v' vo (.slice ap np cp) D2 → W.cell? ⟨b, 0, none⟩ = some (.int .i64 D2.pc) ∧ W.frozen? ⟨b, 0, none⟩ = false) := fun W v' D2 q => ⟨q.cells.c0, q.fr 0⟩
  have HTR : Hid (∀ W, HidC Try.prog 45 #[.int .u64 (D.st.getD (n - 1) 0)] W fun e w' => e = .returned (.bool false) ∧ W = w') := fun W => ⟨by have q := truth_any (D.st.getD (n - 1) 0) W; rw [htr] at q; exact q⟩
  have hn1 : 1 ≤ n := hpn
  have HTG : Hid (∀ W, Touch w W [] → HidC Try.prog 44 #[.pointer (some ⟨b, 0, none⟩), .int .i64 ia] W fun e w' => e = .returned (.int .i64 ia) ∧ W = w') := fun W t => ⟨target_ok (h.o.touch t (by simp)) ia ha⟩
  clear hh h hf hpn hn
  go_enter Try.func24, Try.ntmps24
  go_wp2_with fail
  refine HH.out.mono ?_
  rintro e w1 ⟨rfl, t1⟩
  clear HH
  have HT : Hid (Touch w (w1.alloc (.cells #[.int .u8 20, .int .i64 ia, .int .u64 iv] 48)) []) := t1.alloc _
  obtain ⟨x0, x1, x2⟩ := (BoxI.new w1 20 ia iv).cells
  have c0 := HC.out _ HT.out
  go_wp2_with fail
  refine (HG.out _).out.mono ?_
  rintro e _ ⟨rfl, rfl⟩
  clear HG
  go_wp2_with fail
  refine (sneed_ok 3 _).mono ?_
  rintro e _ ⟨rfl, rfl⟩
  go_wp2_with fail
  refine (HP.out _ HT.out).out.mono ?_
  rintro e _ ⟨⟨a, c, rfl, hr⟩, rfl⟩
  have hgd : (D.st.drop (n - 1)).getD 0 0 = D.st.getD (n - 1) 0 := by simp [List.getD]
  obtain ⟨g, off, rfl, hc⟩ := vrow_at hr (by rw [List.length_drop]; omega) (by omega)
  have hc0 := hc 0 (by omega)
  rw [hgd, Nat.add_zero] at hc0
  clear hc hgd hr
  go_wp2_with fail
  refine (HTR.out _).out.mono ?_
  rintro e _ ⟨rfl, rfl⟩
  go_wp2_with fail
  refine (HTG.out _ HT.out).out.mono ?_
  rintro e _ ⟨rfl, rfl⟩
  go_wp2_with fail
  refine (HU.out _ _ c).out.mono ?_
  rintro e w3 ⟨v3, rfl, o3, t3⟩
  clear HU
  obtain ⟨a2, c2, rfl⟩ := owns_slice o3
  have HT3 : Hid (Touch w w3 []) := HT.out.trans t3 (by simp)
  have HX3 : HidC _ _ _ _ _ := HX.out w3 a2 _ c2 [] HT3.out (vrow_of o3) rfl (by simp)
  clear HX o3 t3 c0 x0 x1 x2
  go_wp2_with fail
  refine HX3.out.mono ?_
  rintro e w4 ⟨rfl, hx⟩
  clear HX3
  have HF : Hid _ := step_tail (D2 := { D with st := D.st.take (n - 1) ++ [] }) HO.out HT3.out rfl hx (ia)
  obtain ⟨v', h4, _⟩ := hx
  obtain ⟨d0, d1⟩ := HD.out _ _ _ h4
  go_wp2
  go_end0
  exact ⟨rfl, HF.out.2⟩

set_option maxRecDepth 100000 in
set_option maxHeartbeats 2000000 in
theorem step_zero_no {w : World} {b B : Nat} {T : TypeId} {tl : List Value} {vo : Value} {ap : Option Addr} {np cp : Nat} {ao : Option Addr} {n cap : Nat} {D : WD} (h : WOwn w b B T tl (.slice ao n cap) vo (.slice ap np cp) D) (hn : n ≤ 1000) (hpc : 0 ≤ D.pc ∧ D.pc < 9223372036854775807) {ia iv : Int} (hh : Calls Try.prog 40 #[.pointer (some ⟨b, 0, none⟩)] w fun e w' => e = .returned (.agg #[.int .u8 20, .int .i64 ia, .int .u64 iv]) ∧ Touch w w' []) (hf : fitsW 20 n = true) (htr : truthB (classB (ofB (D.st.getD (n - 1) 0).toNat)) = false) (ha : ¬ ia ≤ np) :
    Calls Try.prog 24 #[.pointer (some ⟨b, 0, none⟩)] w (StuckP 2 w) := by
  have HH : HidC _ _ _ _ _ := ⟨hh⟩
  have HG : Hid (∀ W, HidC Try.prog 42 #[.int .u8 20] W fun e w' => e = .returned (.bool true) ∧ W = w') := fun W => ⟨hangs_any 20 W⟩
  have hlen : D.st.length = n := by
    obtain ⟨a5, c5, e⟩ := owns_slice h.s
    simp only [Value.slice.injEq] at e
    exact e.2.1.symm
  have hpn : 1 ≤ n := by
    unfold fitsW at hf
    simp only [Bool.and_eq_true, decide_eq_true_eq] at hf
    have h5 : popV 20 = 1 := rfl
    omega
  have HP : Hid (∀ W, Touch w W [] → HidC Try.prog 43 #[.pointer (some ⟨b, 0, none⟩), .int .u8 20] W fun e w' => (∃ a c, e = .returned (.slice a 1 c) ∧ VRow W (.slice a 1 c) (D.st.drop (n - 1))) ∧ W = w') := fun W t => ⟨popped_ok (h.o.touch t (by simp)) (ownsRow_touch h.s t (by simp)) hn 20 hf⟩
  have HU : Hid (∀ W a c, HidC Try.prog 47 #[.pointer (some ⟨b, 0, none⟩), .agg #[.int .u8 20, .int .i64 ia, .int .u64 iv], .slice a 1 c] W (PushP W [])) := fun W a c => ⟨pushed_none 20 ia iv _ (by decide)⟩
  have HX : Hid (∀ W a2 m c2 pu, Touch w W [] → VRow W (.slice a2 m c2) pu → m = pu.length → m ≤ 1000 → HidC Try.prog 46 #[.pointer (some ⟨b, 0, none⟩), .int .i64 1, .slice a2 m c2] W (ExchP W b B T tl (.slice ao n cap) vo (.slice ap np cp) { D with st := D.st.take (n - 1) ++ pu })) := fun W a2 m c2 pu t hr hm hm2 => ⟨exchange_any (h.o.touch t (by simp)) (ownsRow_touch h.s t (by simp)) (Nat.le_trans h.hB t.size) h.hb hn 1 hpn hr hm hm2⟩
  have HC : Hid (∀ W, Touch w W [] → W.cell? ⟨b, 0, none⟩ = some (.int .i64 D.pc)) := fun W t => (h.o.touch t (by simp)).cells.c0
  have hwr : IntKind.i64.wrap (D.pc + 1) = D.pc + 1 := by rw [IntKind.wrap_i64]; omega
  have HO : Hid _ := h
  have HD : Hid (∀ W : World, ∀ v' D2, WObj W b T tl v' vo (.slice ap np cp) D2 → W.cell? ⟨b, 0, none⟩ = some (.int .i64 D2.pc) ∧ W.frozen? ⟨b, 0, none⟩ = false) := fun W v' D2 q => ⟨q.cells.c0, q.fr 0⟩
  have HTR : Hid (∀ W, HidC Try.prog 45 #[.int .u64 (D.st.getD (n - 1) 0)] W fun e w' => e = .returned (.bool false) ∧ W = w') := fun W => ⟨by have q := truth_any (D.st.getD (n - 1) 0) W; rw [htr] at q; exact q⟩
  have hn1 : 1 ≤ n := hpn
  have HTG : Hid (∀ W, Touch w W [] → HidC Try.prog 44 #[.pointer (some ⟨b, 0, none⟩), .int .i64 ia] W (StuckP 2 W)) := fun W t => ⟨target_no (h.o.touch t (by simp)) ia ha⟩
  clear hh h hf hpn hn
  go_enter Try.func24, Try.ntmps24
  go_wp2_with fail
  refine HH.out.mono ?_
  rintro e w1 ⟨rfl, t1⟩
  clear HH
  have HT : Hid (Touch w (w1.alloc (.cells #[.int .u8 20, .int .i64 ia, .int .u64 iv] 48)) []) := t1.alloc _
  obtain ⟨x0, x1, x2⟩ := (BoxI.new w1 20 ia iv).cells
  have c0 := HC.out _ HT.out
  go_wp2_with fail
  refine (HG.out _).out.mono ?_
  rintro e _ ⟨rfl, rfl⟩
  clear HG
  go_wp2_with fail
  refine (sneed_ok 3 _).mono ?_
  rintro e _ ⟨rfl, rfl⟩
  go_wp2_with fail
  refine (HP.out _ HT.out).out.mono ?_
  rintro e _ ⟨⟨a, c, rfl, hr⟩, rfl⟩
  have hgd : (D.st.drop (n - 1)).getD 0 0 = D.st.getD (n - 1) 0 := by simp [List.getD]
  obtain ⟨g, off, rfl, hc⟩ := vrow_at hr (by rw [List.length_drop]; omega) (by omega)
  have hc0 := hc 0 (by omega)
  rw [hgd, Nat.add_zero] at hc0
  clear hc hgd hr
  go_wp2_with fail
  refine (HTR.out _).out.mono ?_
  rintro e _ ⟨rfl, rfl⟩
  go_wp2_with fail
  refine (HTG.out _ HT.out).out.mono ?_
  rintro e w2 ⟨rfl, t2⟩
  exact ⟨rfl, rfl, HT.out.trans t2 (by simp)⟩

end Go.Proofs.Ytlndbligbpfdpaa
